/- The walk of the document's Loose. -/
import Derived.Test.YtjlhhnkfedfdnaaFrame
import Derived.Test.YtjlhhnkfedfdnaaGen
import Derived.Test.YtjlhhnkfedfdnaaInfos
import Derived.Test.YtjlhhnkfedfdnaaLists
import Derived.Test.YtjlhhnkfedfdnaaLooseMath
import Derived.Test.YtjlhhnkfedfdnaaMarkMath
import Derived.Test.YtjlhhnkfedfdnaaOwnL
import Derived.Test.YtjlhhnkfedfdnaaParts
import Derived.Test.YtjlhhnkfedfdnaaPartsMath
import Derived.Test.YtjlhhnkfedfdnaaReadMath
import Derived.Test.YtjlhhnkfedfdnaaReadW
import Derived.Test.YtjlhhnkfedfdnaaRefNumW
import Derived.Test.YtjlhhnkfedfdnaaRefReadW
import Derived.Test.YtjlhhnkfedfdnaaRows
import Derived.BigQuiet
import Derived.Deep.Cut
import Derived.Deep.DeepCutAuto
import Derived.Deep.QuietTactic
import Derived.Lib.Hide
import Derived.WalkKit
import Derived.WalkLawsBesides
import Derived.WalkSpells
set_option linter.unusedVariables false
namespace Go.Proofs.Ytjlhhnkfedfdnaa
open Go.RowKit

theorem copyF_snoc (k : Nat) : ∀ (n : Nat) (b : Txt), copyF (n + 1) k b = copyF n k b ++ [(copyF n k b).getD ((copyF n k b).length - k) 0]
  | 0, b => rfl
  | n + 1, b => by
    show copyF (n + 1) k (b ++ [_]) = _
    rw [copyF_snoc k n]
    rfl
/-- What is left to do: what the reader has left, and one; nothing behind an error. -/
def lzM (n : Nat) (w : World) (q : Nat) : Nat := match w.cell? ⟨q, 2, none⟩, w.cell? ⟨q, 1, none⟩ with
  | some e, some a => if intOf e = 0 then n + 1 - (intOf a).toNat else 0
  | _, _ => 0
theorem RefRd.lz {w : World} {q : Nat} {S : List UInt8} {s : RS} (h : RefRd w q S s) : lzM S.length w q = if s.e = 0 then s.l.length + 1 else 0 := by
  obtain ⟨a, h1, h2, h3, h4⟩ := h
  obtain ⟨_, c1, c2, _⟩ := rd_c h1
  unfold lzM
  rw [c1, c2]
  by_cases he : s.e = 0
  · rw [if_pos he, h3 he, List.length_drop]
    simp [intOf, he]
    omega
  · rw [if_neg he]
    simp [intOf, he]
set_option maxRecDepth 100000 in
set_option maxHeartbeats 1000000 in
theorem refRawE_any (w : World) (q : Nat) (S : List UInt8) (s : RS) (n : Int) (he : s.e ≠ 0) (h : RefRd w q S s) :
    Calls Try.prog 33 #[ptr q, .int .i64 n] w (RDoes w q S (.string ⟨#[]⟩) s) := by
  have HH := Lib.hid h
  obtain ⟨a, hh, ha, hl, hok⟩ := h
  obtain ⟨c0, c1, c2, f1, f2⟩ := rd_c hh
  have q0 : (s.e != 0) = true := by simp [he]
  clear he hh hl hok
  go_enter Try.func33, Try.ntmps33
  go_wp2
  go_ret
  exact ⟨rfl, HH.out, Kept.refl _ _⟩
/-- What a round of Loose stands on. -/
structure LoAt (w0 wr : World) (q : Nat) (S : Txt) (v : Value) (r : RS) (b : Txt) : Prop where
  own : Own wr (q + 1) 5 v b
  rd : RefRd wr q S r
  bel : Below w0.heap.size w0 wr
  sz : q + 1 ≤ wr.heap.size
theorem LoAt.rdoes {w0 wr w' : World} {q : Nat} {S : Txt} {v : Value} {r r' : RS} {b : Txt} (h : LoAt w0 wr q S v r b) (hr : RefRd w' q S r') (hk : Kept (· = q) wr w') (hq : w0.heap.size ≤ q) : LoAt w0 w' q S v r' b :=
  ⟨Kept.own h.own hk (fun k hk e => by omega), hr, h.bel.trans (hk.below h.bel.size (fun k e => by omega)), Nat.le_trans h.sz hk.size⟩
theorem LoAt.turn {w0 wr w' : World} {q : Nat} {S : Txt} {v v' : Value} {r : RS} {b b' : Txt} (h : LoAt w0 wr q S v r b) (ho : Own w' (q + 1) 5 v' b') (hb : Below (q + 1) wr w') (hq : w0.heap.size ≤ q) : LoAt w0 w' q S v' r b' :=
  ⟨ho, h.rd.kept (Kept.of_below hb) (by omega), h.bel.trans (hb.mono (by omega)), Nat.le_trans h.sz hb.size⟩
set_option maxRecDepth 100000 in
set_option maxHeartbeats 2000000 in
theorem refLoose_any (s : Txt) (w : World) (hs : s.length ≤ 1000000) :
    Calls Try.prog 17 #[.string ⟨s.toArray⟩] w fun e w' => e = .returned (.tuple #[.string ⟨(looseS s).1.toArray⟩, .int .i64 (looseS s).2]) ∧ Below w.heap.size w w' := by
  have hb0 : Below w.heap.size w (w.alloc (rdC s 0 0)) := (Below.refl _ _).alloc (Nat.le_refl _) _
  have RD0 := Lib.hid (show RefRd (w.alloc (rdC s 0 0)) w.heap.size s ⟨s, 0⟩ from ⟨0, heap_alloc_new _ _, by omega, fun _ => rfl, .inl rfl⟩)
  have CN := Lib.hid (refCountR_any (w.alloc (rdC s 0 0)) w.heap.size s ⟨s, 0⟩ 1048576 RD0.out hs (by decide))
  have LA0 := Lib.hid (show LoAt w (w.alloc (rdC s 0 0)) w.heap.size s (.slice none 0 0) ⟨s, 0⟩ [] from ⟨Own.nil _ _ _, RD0.out, hb0, by simp⟩)
  have HLS := Lib.hid (show looseS s = if (rEnd (looseF (rCount ⟨s, 0⟩ 1048576).1.toNat (s.length + 1) (rCount ⟨s, 0⟩ 1048576).2 []).1).e ≠ 0 then ([], (rEnd (looseF (rCount ⟨s, 0⟩ 1048576).1.toNat (s.length + 1) (rCount ⟨s, 0⟩ 1048576).2 []).1).e) else ((looseF (rCount ⟨s, 0⟩ 1048576).1.toNat (s.length + 1) (rCount ⟨s, 0⟩ 1048576).2 []).2, 0) from rfl)
  have hcok := rCount_ok ⟨s, 0⟩ 1048576 (.inl rfl)
  obtain ⟨z, hz1, _, hz3⟩ := rCount_nat ⟨s, 0⟩ 1048576 (.inl rfl)
  have hz2 : z ≤ 1048576 := by
    rcases rCount_cases ⟨s, 0⟩ 1048576 (.inl rfl) with ⟨h1, _⟩ | ⟨_, h2, h3⟩
    · omega
    · rw [h2] at hz1; omega
  have HLL := Lib.hid (fun (he : (rCount ⟨s, 0⟩ 1048576).2.e = 0) => rCount_less ⟨s, 0⟩ 1048576 (.inl rfl) he)
  rw [hz1] at CN HLS
  rw [Int.toNat_natCast] at HLS
  generalize (rCount ⟨s, 0⟩ 1048576).2 = r0 at *
  generalize looseS s = res at *
  clear hz1 hz3 RD0 hb0
  obtain ⟨q, hq⟩ : ∃ q, q = w.heap.size := ⟨_, rfl⟩
  rw [← hq] at CN LA0
  have HQ := Lib.hid (show w.heap.size ≤ q by omega)
  go_enter Try.func17, Try.ntmps17
  go_wp2_with fail
  rw [← hq]
  clear hq
  refine CN.out.mono ?_
  rintro e w1 ⟨rfl, hr1, hk1⟩
  have LA1 := Lib.hid (LA0.out.rdoes hr1 hk1 HQ.out)
  clear hr1 hk1 LA0 CN
  go_wp2_with fail
  generalize hfin : looseF z (s.length + 1) r0 [] = fin at *
  have HFI := Lib.hid hfin
  have HR0 := Lib.hid hcok
  clear hfin hcok
  go_loopw [6] (fun v wr => ∃ (f : Nat) (r : RS) (b : Txt), LoAt w wr q s v r b ∧ Hid (looseF z f r b = fin) ∧ Hid (r.e = 0 → r.l.length < f) ∧ r.ok ∧ b.length ≤ z) (fun _ wr => lzM s.length wr q)
  case atStart => exact ⟨s.length + 1, r0, [], LA1.out, HFI, Lib.hid (fun he => by have := HLL.out he; have e : (⟨s, 0⟩ : RS).l.length = s.length := rfl; omega), HR0.out, by simp⟩
  case round =>
    obtain ⟨f, r, b, hla, HF, HL, hok, hbl⟩ := hrel
    have LA := Lib.hid hla
    clear hla
    obtain ⟨va, vm, vc, hv⟩ := own_slice LA.out.own
    subst hv
    have hvm : vm = b.length := own_lenV LA.out.own
    subst hvm
    have e2 := LA.out.rd.err
    have HOKR := Lib.hid hok
    have HME := Lib.hid LA.out.rd.lz
    by_cases hgo : r.e = 0 ∧ b.length < z
    · obtain ⟨he, hlt⟩ := hgo
      have HGO := Lib.hid (show r.e = 0 ∧ b.length < z from ⟨he, hlt⟩)
      have q1 : (r.e == 0) = true := by simp [he]
      have j1 : (b.length : Int) < (z : Int) := by omega
      have NM := Lib.hid (refNumR_any wr q s r LA.out.rd hs)
      obtain ⟨m, hm, hm2⟩ : ∃ c : Nat, (rNum r).1 = (c : Int) ∧ c ≤ 4611686018427387903 := by
        by_cases h : (rNum r).2.e = 0
        · obtain ⟨c, h1, h2, _⟩ := rNum_split r hok h
          exact ⟨c, h2, h1⟩
        · exact ⟨0, by rw [rNum_zero r h]; rfl, by omega⟩
      have HNZ := Lib.hid (fun (h : (rNum r).2.e ≠ 0) => show m = 0 by have := rNum_zero r h; omega)
      have HNL := Lib.hid (fun (h : (rNum r).2.e = 0) => rNum_less r hok h)
      have HNO := Lib.hid (rNum_ok r hok)
      have HEQ := Lib.hid (show rNum r = ((m : Int), (rNum r).2) by rw [← hm])
      rw [hm] at NM
      generalize (rNum r).2 = r1 at *
      obtain ⟨lf, hlf⟩ : ∃ lf, lf = z - b.length := ⟨_, rfl⟩
      have W1 : (z : Int) - (b.length : Int) = (lf : Int) := by omega
      have lfb : lf ≤ 1048576 := by omega
      obtain ⟨f, rfl⟩ : ∃ g, f = g + 1 := ⟨f - 1, by have := HL.out he; omega⟩
      have HLF := Lib.hid (show r.l.length < f + 1 from HL.out he)
      rw [he] at e2
      clear he hm HL hok
      go_wp2_with fail
      refine NM.out.mono ?_
      rintro e w2 ⟨rfl, hr2, hk2⟩
      have L2 := Lib.hid (LA.out.rdoes hr2 hk2 HQ.out)
      clear hr2 hk2 NM e2
      have e3 := L2.out.rd.err
      obtain ⟨k, hk⟩ : ∃ k, k = m / 2 := ⟨_, rfl⟩
      have T1 : Int.tdiv (m : Int) 2 = (k : Int) := by rw [hk]; rfl
      have T2 : (m : Int) / 2 = (k : Int) := by omega
      by_cases hpar : m % 2 = 0
      · have P1 : Int.tmod (m : Int) 2 = 0 := by show ((m % 2 : Nat) : Int) = 0; rw [hpar]; rfl
        have HEV := Lib.hid (looseF_even (f := f) HGO.out HEQ.out (show (m : Int) % 2 = 0 by omega))
        by_cases h1 : r1.e = 0
        · rw [h1] at e3
          by_cases h2 : m = 0 ∨ lf < k
          · have HEW := Lib.hid (show looseF z f ⟨[], 5⟩ b = fin by
              have ev : evR z b ((m : Int), r1) = ⟨[], 5⟩ := if_pos ⟨h1, h2.elim (fun h => .inl (by dsimp only; omega)) (fun h => .inr (by dsimp only; omega))⟩
              rw [ev, rRaw_err _ _ (by decide), List.append_nil, HF.out] at HEV
              exact HEV.out.symm)
            obtain ⟨fz, hrd, hk3⟩ := L2.out.rd.setErr 5 (by decide)
            have L3 := Lib.hid (L2.out.rdoes hrd hk3 HQ.out)
            have RW := Lib.hid (refRawE_any _ q s ⟨[], 5⟩ (k : Int) (by decide) hrd)
            have hq3 : ((m : Int) == 0) = true ∨ (((m : Int) == 0) = false ∧ (lf : Int) < (k : Int)) := by
              by_cases h : m = 0
              · left; simp [h]
              · right; exact ⟨by simp [h], by omega⟩
            clear h1 h2 HEV HF hk3 hrd HNZ HNL hlf hk
            rcases hq3 with q3 | ⟨q3, j3⟩
            all_goals
              go_wp2_with fail
              generalize w2.setCell ⟨q, 2, none⟩ (.int .i64 5) = w3 at *
              refine RW.out.mono ?_
              rintro e w4 ⟨rfl, hr4, hk4⟩
              have L4 := Lib.hid (L3.out.rdoes hr4 hk4 HQ.out)
              clear hr4 hk4 RW e3
              go_wp2_with (at_builtin; refine append_text (by rfl) (.tmp 55) (.tmp 59) 28 9 5 (by rfl) Try.underlying28 Try.underlying9 info_u8 (q + 1) _ b ⟨#[]⟩ (by rfl) L4.out.own (by rfl) (show b.length + 0 < 70368744177664 by omega) L4.out.sz ?_; intro v' w5 hown5 hb5; obtain ⟨va5, vm5, vc5, rfl⟩ := own_slice hown5; have L5 := Lib.hid (L4.out.turn hown5 hb5 HQ.out); clear hown5 hb5)
              have HZ5 := Lib.hid L5.out.rd.lz
              go_roundw
              case rel => exact ⟨f, ⟨[], 5⟩, b ++ [], L5.out, by rw [List.append_nil]; exact HEW, Lib.hid (fun h => absurd h (by decide)), .inr rfl, by simpa using hbl⟩
              case measure =>
                rw [HZ5.out, HME.out, if_pos HGO.out.1]
                rw [if_neg (by decide)]; omega
          · have hm0 : m ≠ 0 := fun h => h2 (.inl h)
            have hkl : k ≤ lf := by omega
            have ev : evR z b ((m : Int), r1) = r1 := if_neg (by rintro ⟨_, h | h⟩; exact hm0 (by dsimp only at h; omega); dsimp only at h; omega)
            have RW := Lib.hid (refRaw_any w2 q s r1 k (k : Int) rfl (by omega) L2.out.rd hs)
            rw [ev, T2] at HEV
            have HRO := Lib.hid (rRaw_ok r1 (k : Int) HNO.out)
            have HRL := Lib.hid (show (rRaw r1 (k : Int)).1.length ≤ k ∧ ((rRaw r1 (k : Int)).2.e = 0 → (rRaw r1 (k : Int)).2.l.length ≤ r1.l.length) by
              unfold rRaw
              rw [if_neg (by simp [h1]), if_neg (by omega)]
              by_cases hc : (r1.l.length : Int) < (k : Int)
              · rw [if_pos hc]; exact ⟨by simp, fun h => absurd h (by dsimp only; decide)⟩
              · rw [if_neg hc]
                exact ⟨by simp; omega, fun _ => by simp⟩)
            generalize (rRaw r1 (k : Int)).1 = tx at *
            generalize (rRaw r1 (k : Int)).2 = r3 at *
            have HEW := Lib.hid (HEV.out.symm.trans HF.out)
            have q3 : ((m : Int) == 0) = false := by simp [hm0]
            have j3 : ¬ (lf : Int) < (k : Int) := by omega
            have HR1 := Lib.hid (HNL.out h1)
            have hrl := HRL.out.1
            have hbz : b.length + tx.length ≤ z := by omega
            clear h1 h2 HEV HF HNZ HNL hk ev hm0
            go_wp2_with fail
            refine RW.out.mono ?_
            rintro e w4 ⟨rfl, hr4, hk4⟩
            have L4 := Lib.hid (L2.out.rdoes hr4 hk4 HQ.out)
            clear hr4 hk4 RW e3
            go_wp2_with (at_builtin; refine append_text (by rfl) (.tmp 55) (.tmp 59) 28 9 5 (by rfl) Try.underlying28 Try.underlying9 info_u8 (q + 1) _ b ⟨tx.toArray⟩ (by rfl) L4.out.own (by rfl) (by have e : (⟨tx.toArray⟩ : ByteArray).size = tx.length := rfl; omega) L4.out.sz ?_; intro v' w5 hown5 hb5; obtain ⟨va5, vm5, vc5, rfl⟩ := own_slice hown5; have L5 := Lib.hid (L4.out.turn hown5 hb5 HQ.out); clear hown5 hb5)
            have HZ5 := Lib.hid L5.out.rd.lz
            go_roundw
            case rel => exact ⟨f, r3, b ++ tx, L5.out, HEW, Lib.hid (fun h => by have := HRL.out.2 h; have := HR1.out; have := HLF.out; omega), HRO.out, by rw [List.length_append]; exact hbz⟩
            case measure =>
              rw [HZ5.out, HME.out, if_pos HGO.out.1]
              by_cases h : r3.e = 0
              · rw [if_pos h]; have := HRL.out.2 h; have := HR1.out; omega
              · rw [if_neg h]; omega
        · obtain rfl : m = 0 := HNZ.out h1
          obtain rfl : k = 0 := by omega
          have ev : evR z b (((0 : Nat) : Int), r1) = r1 := if_neg (fun h => h1 h.1)
          have HEW := Lib.hid (show looseF z f r1 b = fin by
            rw [ev, rRaw_err _ _ h1, List.append_nil, HF.out] at HEV
            exact HEV.out.symm)
          have RW := Lib.hid (refRawE_any w2 q s r1 0 h1 L2.out.rd)
          have q3 : (r1.e == 0) = false := by simp [h1]
          have HNE := Lib.hid h1
          clear h1 HEV HF HNZ HNL hk ev
          go_wp2_with fail
          refine RW.out.mono ?_
          rintro e w4 ⟨rfl, hr4, hk4⟩
          have L4 := Lib.hid (L2.out.rdoes hr4 hk4 HQ.out)
          clear hr4 hk4 RW e3
          go_wp2_with (at_builtin; refine append_text (by rfl) (.tmp 55) (.tmp 59) 28 9 5 (by rfl) Try.underlying28 Try.underlying9 info_u8 (q + 1) _ b ⟨#[]⟩ (by rfl) L4.out.own (by rfl) (show b.length + 0 < 70368744177664 by omega) L4.out.sz ?_; intro v' w5 hown5 hb5; obtain ⟨va5, vm5, vc5, rfl⟩ := own_slice hown5; have L5 := Lib.hid (L4.out.turn hown5 hb5 HQ.out); clear hown5 hb5)
          have HZ5 := Lib.hid L5.out.rd.lz
          go_roundw
          case rel => exact ⟨f, r1, b ++ [], L5.out, by rw [List.append_nil]; exact HEW, Lib.hid (fun h => absurd h HNE.out), HNO.out, by simpa using hbl⟩
          case measure =>
            rw [HZ5.out, HME.out, if_pos HGO.out.1]
            rw [if_neg HNE.out]; omega
      · have P1 : Int.tmod (m : Int) 2 = 1 := by show ((m % 2 : Nat) : Int) = 1; rw [show m % 2 = 1 by omega]; rfl
        have HOD := looseF_odd (f := f) HGO.out HEQ.out (show ¬ (m : Int) % 2 = 0 by omega)
        have NM2 := Lib.hid (refNumR_any w2 q s r1 L2.out.rd hs)
        obtain ⟨m2, hm3, hm4⟩ : ∃ c : Nat, (rNum r1).1 = (c : Int) ∧ c ≤ 4611686018427387903 := by
          by_cases h : (rNum r1).2.e = 0
          · obtain ⟨c, h1, h2, _⟩ := rNum_split r1 HNO.out h
            exact ⟨c, h2, h1⟩
          · exact ⟨0, by rw [rNum_zero r1 h]; rfl, by omega⟩
        have HN2L := Lib.hid (fun (h : (rNum r1).2.e = 0) => show (rNum r1).2.l.length < r.l.length by
          have h1 := rNum_less r1 HNO.out h
          have h2 := HNL.out (rNum_e r1 HNO.out h)
          omega)
        have HN2O := Lib.hid (rNum_ok r1 HNO.out)
        have HEQ2 := Lib.hid (show rNum r1 = ((m2 : Int), (rNum r1).2) by rw [← hm3])
        rw [hm3] at NM2
        rw [HEQ2.out, HF.out] at HOD
        have HODF := Lib.hid HOD
        generalize (rNum r1).2 = r2 at *
        have HLFE := Lib.hid hlf
        have HKE := Lib.hid hk
        clear HOD hm3 HF HNZ HNL HNO HEQ2 HEQ hlf hk
        go_wp2_with fail
        refine NM2.out.mono ?_
        rintro e w3 ⟨rfl, hr3, hk3⟩
        have L3 := Lib.hid (L2.out.rdoes hr3 hk3 HQ.out)
        clear hr3 hk3 NM2 e3
        have e4 := L3.out.rd.err
        obtain ⟨bk, hbk⟩ : ∃ bk, bk = m2 + 1 := ⟨_, rfl⟩
        have W2 : (m2 : Int) + 1 = (bk : Int) := by omega
        have bkb : bk ≤ 4611686018427387904 := by omega
        obtain ⟨rx, hrx⟩ : ∃ rx, rx = odR z b (m : Int) ((m2 : Int), r2) := ⟨_, rfl⟩
        rw [← hrx] at HODF
        have kb : k ≤ 2305843009213693952 := by have := HKE.out; omega
        have HRX := Lib.hid (show (rx.e = 0 → rx = r2 ∧ bk ≤ b.length ∧ bk ≤ 4096 ∧ k ≤ 255 ∧ k + 4 ≤ lf) ∧ rx.ok by
          have hlf := HLFE.out
          have hk := HKE.out
          by_cases hc : r2.e = 0 ∧ ((b.length : Int) < (m2 : Int) + 1 ∨ 4096 < (m2 : Int) + 1 ∨ 255 < (m : Int) / 2 ∨ ((z - b.length : Nat) : Int) < (m : Int) / 2 + 4)
          · rw [hrx, show odR z b (m : Int) ((m2 : Int), r2) = ⟨[], 5⟩ from if_pos hc]
            exact ⟨fun h => absurd h (by decide), .inr rfl⟩
          · rw [hrx, show odR z b (m : Int) ((m2 : Int), r2) = r2 from if_neg hc]
            refine ⟨fun h => ?_, HN2O.out⟩
            have : ¬ ((b.length : Int) < (m2 : Int) + 1 ∨ 4096 < (m2 : Int) + 1 ∨ 255 < (m : Int) / 2 ∨ ((z - b.length : Nat) : Int) < (m : Int) / 2 + 4) := fun h2 => hc ⟨h, h2⟩
            exact ⟨rfl, by omega, by omega, by omega, by omega⟩)
        have HBK := Lib.hid hbk
        have HRE := Lib.hid hrx
        clear hbk hrx
        go_upto_region 12 with fail
        obtain ⟨bad, hbad⟩ : ∃ bad, bad = decide (r2.e = 0 ∧ ((b.length : Int) < (bk : Int) ∨ 4096 < (bk : Int) ∨ 255 < (k : Int) ∨ (lf : Int) < (k : Int) + 4)) := ⟨_, rfl⟩
        have HBAD := Lib.hid hbad
        clear hbad
        go_cut [90] (fun v90 wx => v90 = .bool bad ∧ wx = w3)
        case first =>
          by_cases h1 : r2.e = 0
          · rw [h1] at e4
            by_cases hc : (b.length : Int) < (bk : Int) ∨ 4096 < (bk : Int) ∨ 255 < (k : Int) ∨ (lf : Int) < (k : Int) + 4
            · have hbt : bad = true := by rw [HBAD.out]; exact decide_eq_true ⟨h1, hc⟩
              have hc2 : (b.length : Int) < (bk : Int) ∨ (¬ (b.length : Int) < (bk : Int) ∧ 4096 < (bk : Int)) ∨ (¬ (b.length : Int) < (bk : Int) ∧ ¬ 4096 < (bk : Int) ∧ 255 < (k : Int)) ∨ (¬ (b.length : Int) < (bk : Int) ∧ ¬ 4096 < (bk : Int) ∧ ¬ 255 < (k : Int) ∧ (lf : Int) < (k : Int) + 4) := by omega
              have HBT := Lib.hid hbt
              clear hc h1 hbt
              rcases hc2 with j3 | ⟨j3, j4⟩ | ⟨j3, j4, j5⟩ | ⟨j3, j4, j5, j6⟩
              all_goals
                go_wp2_with fail
                go_meet
                exact ⟨by rw [HBT.out], rfl⟩
            · have hbt : bad = false := by rw [HBAD.out]; exact decide_eq_false (fun h => hc h.2)
              have HBT := Lib.hid hbt
              have j3 : ¬ (b.length : Int) < (bk : Int) := fun h => hc (.inl h)
              have j4 : ¬ 4096 < (bk : Int) := fun h => hc (.inr (.inl h))
              have j5 : ¬ 255 < (k : Int) := fun h => hc (.inr (.inr (.inl h)))
              have j6 : ¬ (lf : Int) < (k : Int) + 4 := fun h => hc (.inr (.inr (.inr h)))
              clear hc h1 hbt
              go_wp2_with fail
              go_meet
              exact ⟨by rw [HBT.out], rfl⟩
          · have hbt : bad = false := by rw [HBAD.out]; exact decide_eq_false (fun h => h1 h.1)
            have HBT := Lib.hid hbt
            have q3 : (r2.e == 0) = false := by simp [h1]
            clear h1 hbt
            go_wp2_with fail
            go_meet
            exact ⟨by rw [HBT.out], rfl⟩
        case rest =>
          obtain ⟨rfl, rfl⟩ := hcut
          go_upto_if 90 with fail
          go_cut [] (fun wx => LoAt w wx q s (.slice va b.length vc) rx b)
          case first =>
            cases hbt : bad with
            | true =>
              have h2 := of_decide_eq_true (HBAD.out.symm.trans hbt)
              have er : rx = ⟨[], 5⟩ := by rw [HRE.out]; exact if_pos ⟨h2.1, by dsimp only; have := HBK.out; have := HLFE.out; omega⟩
              subst er
              obtain ⟨fz, hrd, hk4⟩ := L3.out.rd.setErr 5 (by decide)
              have L4 := Lib.hid (L3.out.rdoes hrd hk4 HQ.out)
              clear hrd hk4 HRE h2
              go_wp2_with fail
              go_meet
              exact L4.out
            | false =>
              have h2 := of_decide_eq_false (HBAD.out.symm.trans hbt)
              have er : rx = r2 := by rw [HRE.out]; exact if_neg (fun h => h2 ⟨h.1, by have := h.2; dsimp only at this; have := HBK.out; have := HLFE.out; omega⟩)
              subst er
              clear HRE h2
              go_wp2_with fail
              go_meet
              exact L3.out
          case rest =>
            have L5 := Lib.hid hcut
            generalize wc = w5 at *
            clear hcut e4 L3 HBAD
            obtain ⟨hrx1, hrx2⟩ := HRX.out
            go_wp2_with fail
            go_loopw [6, 10] (fun v vk wr => ∃ j : Nat, vk = .int .i64 j ∧ LoAt w wr q s v rx (copyF j bk b) ∧ Hid (rx.e ≠ 0 → j = 0) ∧ Hid (rx.e = 0 → j ≤ k + 4)) (fun _ vk _ => 300 - (intOf vk).toNat)
            case atStart => exact ⟨0, rfl, L5.out, Lib.hid (fun _ => rfl), Lib.hid (fun _ => by omega)⟩
            case round =>
              obtain ⟨j, rfl, hla, HJ0, HJ1⟩ := hrel
              have L6 := Lib.hid hla
              clear hla
              obtain ⟨vb, vn, vd, hv⟩ := own_slice L6.out.own
              subst hv
              have hvn : vn = (copyF j bk b).length := own_lenV L6.out.own
              subst hvn
              have e6 := L6.out.rd.err
              by_cases hin : rx.e = 0 ∧ j < k + 4
              · obtain ⟨he6, hj⟩ := hin
                obtain ⟨_, h3, h4, h5, h6⟩ := hrx1 he6
                have hbk1 : 1 ≤ bk := by have := HBK.out; omega
                have HCL := Lib.hid (copyF_len j bk b)
                have HS := Lib.hid (copyF_snoc bk j b)
                have HE6 := Lib.hid he6
                rw [he6] at e6
                clear he6
                generalize copyF j bk b = C at *
                have hcl := HCL.out
                obtain ⟨ix, hix⟩ : ∃ ix, ix = C.length - bk := ⟨_, rfl⟩
                have hil : ix < C.length := by omega
                obtain ⟨gx, hgx, hcell⟩ : ∃ gx, vb = some ⟨gx, 0, none⟩ ∧ wr.cell? ⟨gx, ix, none⟩ = some (.int .u8 ((C[ix].toNat : Nat) : Int)) := by
                  rcases L6.out.own.2 with ⟨h, hn⟩ | ⟨gx, cap, cur, hv, _⟩
                  · omega
                  · simp at hv
                    obtain ⟨rfl, rfl⟩ := hv
                    have := World.ownsRow.cells L6.out.own (g := gx) rfl ix (.int .u8 ((C[ix].toNat : Nat) : Int)) (by simp [cellsOf, hil])
                    rw [addr_add0] at this
                    exact ⟨gx, rfl, this⟩
                subst hgx
                have HSC := Lib.hid (show copyF (j + 1) bk b = C ++ [UInt8.ofNat (((C[ix].toNat : Nat) : Int)).toNat] by
                  rw [HS.out, ← hix, List.getD_eq_getElem?_getD, List.getElem?_eq_getElem hil]
                  simp)
                have hby := C[ix].toNat_lt
                obtain ⟨by', hby'⟩ : ∃ y : Int, y = ((C[ix].toNat : Nat) : Int) := ⟨_, rfl⟩
                rw [← hby'] at hcell HSC
                have hy0 : 0 ≤ by' := by omega
                have hy1 : by' < 256 := by omega
                have W4 : (C.length : Int) - (bk : Int) = (ix : Int) := by omega
                have W5 : IntKind.i64.wrap ((C.length : Int) - (bk : Int)) = (ix : Int) := by rw [IntKind.wrap_i64]; omega
                have hcl2 : C.length ≤ 1048576 := by omega
                have i1 : (ix : Int) < (C.length : Int) := by omega
                have i0 : (0 : Int) ≤ (ix : Int) := by omega
                have j1 : (j : Int) < (k : Int) + 4 := by omega
                have HLN := Lib.hid (show C.length ≤ 1048576 by omega)
                have hj300 : j < 300 := by omega
                clear hix hby hby' hil HS HCL hcl
                go_wp2_with (at_builtin; refine append_byte (w := wr) (by rfl) (.tmp 108) (.tmp 116) 28 5 (by rfl) Try.underlying28 info_u8 (q + 1) _ C by' (by rfl) L6.out.own (by rfl) hy0 hy1 (by have := HLN.out; omega) L6.out.sz ?_; intro v' w7 hown7 hb7; obtain ⟨va7, vm7, vc7, rfl⟩ := own_slice hown7; have L7 := Lib.hid (L6.out.turn hown7 hb7 HQ.out); clear hown7 hb7)
                go_roundw
                case rel => exact ⟨j + 1, by go_num, by rw [HSC.out]; exact L7.out, Lib.hid (fun h => absurd HE6.out h), Lib.hid (fun _ => by omega)⟩
                case measure => simp [intOf]; omega
              · by_cases he6 : rx.e = 0
                · have hj : j = k + 4 := by have := HJ1.out he6; omega
                  obtain ⟨_, h3, h4, h5, h6⟩ := hrx1 he6
                  have HEW := Lib.hid (show looseF z f rx (copyF (k + 4) bk b) = fin by
                    have := HODF.out
                    rw [if_pos he6, show ((m : Int) / 2 + 4).toNat = k + 4 by omega, show ((m2 : Int) + 1).toNat = bk by omega] at this
                    exact this.symm)
                  have HLB := Lib.hid (show (copyF (k + 4) bk b).length ≤ z by rw [copyF_len]; have := HLFE.out; omega)
                  have HRL := Lib.hid (show rx.l.length < r.l.length by have h := (hrx1 he6).1; have := HN2L.out (by rw [← h]; exact he6); rw [h]; exact this)
                  subst hj
                  have j1 : ¬ ((k + 4 : Nat) : Int) < (k : Int) + 4 := by omega
                  clear hin
                  go_wp2_with fail
                  have HZ7 := Lib.hid L6.out.rd.lz
                  go_roundw
                  case rel => exact ⟨f, rx, _, L6.out, HEW, Lib.hid (fun _ => by have := HRL.out; have := HLF.out; omega), hrx2, HLB.out⟩
                  case measure =>
                    rw [HZ7.out, HME.out, if_pos HGO.out.1, if_pos he6]
                    have := HRL.out
                    omega
                · have hj : j = 0 := HJ0.out he6
                  have HEW := Lib.hid (show looseF z f rx b = fin by
                    have := HODF.out
                    rw [if_neg he6] at this
                    exact this.symm)
                  have HE6 := Lib.hid he6
                  have q6 : (rx.e == 0) = false := by simp [he6]
                  subst hj
                  have j1 : (0 : Int) < (k : Int) + 4 := by omega
                  clear hin he6
                  go_wp2_with fail
                  have HZ7 := Lib.hid L6.out.rd.lz
                  go_roundw
                  case rel => exact ⟨f, rx, b, L6.out, HEW, Lib.hid (fun h => absurd h HE6.out), hrx2, hbl⟩
                  case measure =>
                    rw [HZ7.out, HME.out, if_pos HGO.out.1, if_neg HE6.out]
                    omega
    · have HEW := Lib.hid (show (r, b) = fin by rw [← HF.out, looseF_end _ _ _ _ hgo])
      have EN := Lib.hid (refEnd_any wr q s r LA.out.rd hs)
      have hcond : (r.e == 0) = false ∨ ((r.e == 0) = true ∧ r.e = 0 ∧ ¬ (b.length : Int) < (z : Int)) := by
        by_cases h : r.e = 0
        · right; exact ⟨by simp [h], h, by omega⟩
        · left; simp [h]
      rw [← HEW.out] at HLS
      dsimp only at HLS
      have HERR := Lib.hid (rEnd_ok r hok)
      generalize rEnd r = re at *
      obtain ⟨rel', ree⟩ := re
      have OSX := Lib.hid (own_string wr (q + 1) 28 9 5 (.slice va b.length vc) b Try.underlying28 Try.underlying5 Try.underlying9 LA.out.own)
      dsimp only at HLS
      clear HF HL hgo
      rcases hcond with q1 | ⟨q1, he, j1⟩
      all_goals
        go_wp2_with fail
        refine EN.out.mono ?_
        rintro e w6 ⟨rfl, hr6, hk6⟩
        have L6 := Lib.hid (LA.out.rdoes hr6 hk6 HQ.out)
        clear hr6 hk6 EN
        have e6 := L6.out.rd.err
        have OS6 := own_string w6 (q + 1) 28 9 5 (.slice va b.length vc) b Try.underlying28 Try.underlying5 Try.underlying9 L6.out.own
        have HB6 := Lib.hid L6.out.bel
        by_cases hz : ree = 0
        · have q7 : (ree != 0) = false := by simp [hz]
          have HR := Lib.hid (show res = (b, 0) by rw [HLS.out]; exact if_neg (fun h => h hz))
          clear HLS hz
          go_wp2_with fail
          go_ret2
          rw [HR.out]
          exact ⟨rfl, HB6.out⟩
        · have q7 : (ree != 0) = true := by simp [hz]
          have HR := Lib.hid (show res = ([], ree) by rw [HLS.out]; exact if_pos hz)
          clear HLS hz
          go_wp2_with fail
          go_ret2
          rw [HR.out]
          exact ⟨rfl, HB6.out⟩
end Go.Proofs.Ytjlhhnkfedfdnaa
