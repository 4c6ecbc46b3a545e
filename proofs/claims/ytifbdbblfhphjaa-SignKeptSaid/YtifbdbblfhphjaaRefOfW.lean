/- The walk of the document's Of. -/
import Derived.Test.YtifbdbblfhphjaaBookW
import Derived.Test.YtifbdbblfhphjaaFrame
import Derived.Test.YtifbdbblfhphjaaGen
import Derived.Test.YtifbdbblfhphjaaInfos
import Derived.Test.YtifbdbblfhphjaaMarkMath
import Derived.Test.YtifbdbblfhphjaaOfMath
import Derived.Test.YtifbdbblfhphjaaOwnL
import Derived.Test.YtifbdbblfhphjaaReadMath
import Derived.Test.YtifbdbblfhphjaaReadW
import Derived.Test.YtifbdbblfhphjaaRefNumW
import Derived.Test.YtifbdbblfhphjaaRefReadW
import Derived.Test.YtifbdbblfhphjaaRightW
import Derived.Test.YtifbdbblfhphjaaRows
import Derived.Test.YtifbdbblfhphjaaSameW
import Derived.Test.YtifbdbblfhphjaaShelf
import Derived.Test.YtifbdbblfhphjaaSigAt
import Derived.Test.YtifbdbblfhphjaaSigOfW
import Derived.Test.YtifbdbblfhphjaaSignAW
import Derived.Test.YtifbdbblfhphjaaSignMath
import Derived.Test.YtifbdbblfhphjaaWeak2W
import Derived.BigQuiet
import Derived.BigRegion
import Derived.Deep.CutBlock
import Derived.Deep.DeepCutAuto
import Derived.Deep.QuietTactic
import Derived.Deep.RegionHeld3
import Derived.Deep.RegionLaw
import Derived.IntWalk
import Derived.Laws.BitsAllLaws
import Derived.Laws.Rows
import Derived.Laws.Tables
import Derived.Lib.Hide
import Derived.Outline
import Derived.StillTailTactics
import Derived.WalkKit
import Derived.WalkLawsBesides
import Derived.WalkSpells
set_option linter.unusedVariables false
namespace Go.Proofs.Ytifbdbblfhphjaa
open Go.RowKit

abbrev RefR (S : Txt) (w : World) (g : Nat) (s : RS) : Prop := RefRd w g S s
theorem rdI_ref (S : Txt) : RdI (RefR S) :=
  ⟨fun _ _ _ _ _ h hk hm => RefRd.kept h hk hm, fun w g s h => by obtain ⟨a, h1, _⟩ := h; exact ⟨_, _, h1, by decide, by decide, by decide⟩⟩
theorem okS_no (a c : Int) (h : ¬ (okB a = true ∧ okN c = true)) (hc : 0 ≤ c) : a < 16 ∨ 1024 < a ∨ 524288 < c := by
  rw [okB_iff, okN_iff] at h
  omega
theorem heap_mid (w : World) (o1 o2 o3 : Obj) : (((w.alloc o1).alloc o2).alloc o3).heap[w.heap.size]? = some o1 ∧ (((w.alloc o1).alloc o2).alloc o3).heap[w.heap.size + 1]? = some o2 ∧ (((w.alloc o1).alloc o2).alloc o3).heap[w.heap.size + 2]? = some o3 := by
  refine ⟨heap_later (heap_later (heap_alloc_new _ _) _) _, heap_later (heap_alloc2_new _ _ _) _, ?_⟩
  have := heap_alloc_new ((w.alloc o1).alloc o2) o3
  rwa [show ((w.alloc o1).alloc o2).heap.size = w.heap.size + 2 by simp] at this

set_option maxRecDepth 100000 in
set_option maxHeartbeats 4000000 in
theorem refOf_any (S : Txt) (w : World) (hS : S.length ≤ 1000000) :
    Calls Try.prog 32 #[.string ⟨S.toArray⟩] w (OfPost w (ofS S)) := by
  have I := Lib.hid (rdI_ref S)
  have HB := Lib.hid (show Below w.heap.size w (((w.alloc (sigC 0 0 (.slice none 0 0) (.slice none 0 0))).alloc (rdC S 0 0)).alloc (sigC 0 0 (.slice none 0 0) (.slice none 0 0))) from (((Below.refl _ _).alloc (Nat.le_refl _) _).alloc (by simp) _).alloc (by simp; omega) _)
  have G0 := Lib.hid (heap_mid w (sigC 0 0 (.slice none 0 0) (.slice none 0 0)) (rdC S 0 0) (sigC 0 0 (.slice none 0 0) (.slice none 0 0)))
  have L0 := Lib.hid (show OfL (RefR S) w (w.heap.size + 2) (w.heap.size + 1) 0 0 (.slice none 0 0) (.slice none 0 0) [] [] ⟨S, 0⟩ (((w.alloc (sigC 0 0 (.slice none 0 0) (.slice none 0 0))).alloc (rdC S 0 0)).alloc (sigC 0 0 (.slice none 0 0) (.slice none 0 0))) from ⟨⟨G0.out.2.2, OwnL.nil _ _ _ _, OwnL.nil _ _ _ _⟩, G0.out.1, ⟨0, G0.out.2.1, by omega, fun _ => rfl, .inl rfl⟩, .inl rfl, HB.out, by omega, by omega⟩)
  have E := Lib.hid (show ofS S = ofHead (rNum ⟨S, 0⟩).1 (rNum (rNum ⟨S, 0⟩).2).1 (rNum (rNum ⟨S, 0⟩).2).2 from rfl)
  have K1 := Lib.hid (rNum_ok ⟨S, 0⟩ (.inl rfl))
  have N1 := Lib.hid (refNumR_any _ (w.heap.size + 1) S ⟨S, 0⟩ L0.out.rd hS)
  clear HB G0
  go_enter Try.func32, Try.ntmps32
  go_wp2_with fail
  generalize (((w.alloc (.cells #[.int .i64 0, .int .i64 0, .slice none 0 0, .slice none 0 0] 31)).alloc (.cells #[.string ⟨S.toArray⟩, .int .i64 0, .int .i64 0] 81)).alloc (.cells #[.int .i64 0, .int .i64 0, .slice none 0 0, .slice none 0 0] 31)) = w1 at *
  generalize (rNum ⟨S, 0⟩).1 = a at *
  generalize (rNum ⟨S, 0⟩).2 = s1 at *
  have K2 := Lib.hid (rNum_ok s1 K1.out)
  have NN := Lib.hid (rNum_nonneg s1 K1.out)
  refine N1.out.mono ?_
  rintro e w2 ⟨rfl, hr2, hk2⟩
  have L1 := Lib.hid (L0.out.read I.out hr2 K1.out hk2)
  have f0 := frozen_of_row w2 (w.heap.size + 2) 0 _ _ L1.out.sig.heap
  have c0 := L1.out.sig.c.1
  have L2 := Lib.hid (L1.out.set I.out (sig_set0 L1.out.sig.heap a))
  clear L0 L1 N1 hr2 hk2
  go_upto_region 4 with fail
  generalize w2.setCell ⟨w.heap.size + 2, 0, none⟩ (.int .i64 a) = w3 at *
  clear f0 c0
  have N2 := Lib.hid (refNumR_any w3 (w.heap.size + 1) S s1 L2.out.rd hS)
  generalize (rNum s1).1 = c at *
  generalize (rNum s1).2 = s2 at *
  go_wp2_with fail
  refine N2.out.mono ?_
  rintro e w4 ⟨rfl, hr2, hk2⟩
  have L3 := Lib.hid (L2.out.read I.out hr2 K2.out hk2)
  have f0 := frozen_of_row w4 (w.heap.size + 2) 1 _ _ L3.out.sig.heap
  have c0 := L3.out.sig.c.2.1
  have L4 := Lib.hid (L3.out.set I.out (sig_set1 L3.out.sig.heap c))
  clear L2 L3 N2 hr2 hk2 K1
  go_upto_region 5 with fail
  generalize w4.setCell ⟨w.heap.size + 2, 1, none⟩ (.int .i64 c) = w5 at *
  clear f0 c0 K2
  have ER := L4.out.rd.err
  by_cases he : s2.e = 0
  · have q0 : (s2.e != 0) = false := by simp [he]
    have hc0 := NN.out he
    have HH := Lib.hid (show ofHead a c s2 = if okB a = true ∧ okN c = true then ofTail a.toNat c.toNat s2 else ofZ 5 from if_neg (fun h => h he))
    have c0 := L4.out.sig.c.1
    have c1 := L4.out.sig.c.2.1
    clear he
    by_cases hbn : okB a = true ∧ okN c = true
    · have HE := Lib.hid (show ofHead a c s2 = ofTail a.toNat c.toNat s2 by rw [HH.out, if_pos hbn])
      have hb2 := (okB_iff a).1 hbn.1
      have hn2 := (okN_iff c).1 hbn.2
      clear hbn HH
      obtain ⟨B, rfl⟩ : ∃ B : Nat, a = (B : Int) := ⟨a.toNat, by omega⟩
      obtain ⟨M, rfl⟩ : ∃ M : Nat, c = (M : Int) := ⟨c.toNat, by omega⟩
      rw [Int.toNat_natCast, Int.toNat_natCast] at HE
      have HOF := Lib.hid (fun (t u : RS) (W : List Int) (ms : List Txt) (h1 : (itL nextC (nBlk M B) [] s2).2 = t) (h2 : t.e = 0 → (itL nextC (nBlk M B) [] s2).1 = W) (h3 : (itL nextM (nBlk M B) [] t).2 = u) (h4 : u.e = 0 → (itL nextM (nBlk M B) [] t).1 = ms) => ofTail_of (B := B) h1 h2 h3 h4)
      obtain ⟨E1, E2, hN⟩ := nBlk_num M B (by omega) (by omega) (by omega)
      have E3 : ((M : Int) + (B : Int) - 1) / (B : Int) = ((nBlk M B : Nat) : Int) := by rw [show (M : Int) + B - 1 = ((M + B - 1 : Nat) : Int) by omega]; rfl
      have hb0 : ((B : Int) == 0) = false := by simp; omega
      have i16 : ¬ (B : Int) < 16 := by omega
      have i1024 : ¬ (1024 : Int) < (B : Int) := by omega
      have i52 : ¬ (524288 : Int) < (M : Int) := by omega
      generalize ofTail B M s2 = rr at *
      generalize nBlk M B = N at *
      obtain ⟨i0, hi0, hz0, hz1, hz2⟩ := info_parts info_i64
      have Hi := Lib.hid hi0; clear hi0
      have Z0 := Lib.hid hz0; clear hz0
      have Z1 := Lib.hid hz1; clear hz1
      have Z2 := Lib.hid hz2; clear hz2
      go_wp2
      clear E1 E2 E3 hb0 i16 i1024 i52 c0 c1 ER
      go_loopw [7] (fun v wr => ∃ (k : Nat) (vw : Value) (wn : List Nat) (t : RS), k ≤ N ∧ v = .int .i64 k ∧ wn.length = k ∧ OfL (RefR S) w (w.heap.size + 2) (w.heap.size + 1) B M vw (.slice none 0 0) wn [] t wr ∧ itL nextC N [] s2 = itL nextC (N - k) (wn.map (fun n : Nat => (n : Int))) t) (fun v _ => N - (intOf v).toNat)
      case atStart => exact ⟨0, _, [], s2, by omega, rfl, rfl, L4.out, rfl⟩
      case round =>
        clear L4
        obtain ⟨k, vw, wn, t, hk, rfl, hwn, hL, heq⟩ := hrel
        have HWN := Lib.hid hwn; clear hwn
        have HL := Lib.hid hL; clear hL
        have HQ := Lib.hid heq; clear heq
        have ER := HL.out.rd.err
        by_cases hgo : k < N ∧ t.e = 0
        · obtain ⟨hlt, hte⟩ := hgo
          have q1 : (t.e == 0) = true := by simp [hte]
          clear hte
          obtain ⟨f, hf⟩ : ∃ f, N - k = f + 1 := ⟨N - k - 1, by omega⟩
          rw [hf] at HQ
          have HF := Lib.hid hf; clear hf
          obtain ⟨x, hx⟩ := nextC_nat t HL.out.ok
          have LD := Lib.hid (HL.out.new I.out (Below_drew (Below.refl _ wr)))
          have CN := Lib.hid (refCountR_any wr.drew (w.heap.size + 1) S t 4294967295 LD.out.rd hS (by decide))
          have OK1 := Lib.hid (rCount_ok t 4294967295 LD.out.ok)
          have HQ2 := Lib.hid (show itL nextC (f + 1) (wn.map (fun n : Nat => (n : Int))) t = itL nextC f ((wn ++ [x]).map (fun n : Nat => (n : Int))) (rCount t 4294967295).2 by
            rw [List.map_append]; show itL nextC f (_ ++ [(nextC t).1]) _ = _; rw [hx]; rfl)
          have hx1 : (rCount t 4294967295).1 = (x : Int) := hx
          rw [hx1] at CN
          generalize (rCount t 4294967295).2 = t1 at *
          clear hx hx1
          have d1 := HL.out.sig.c.2.2.1
          go_upto_region 13 with fail
          go_region_law (first
            | ((with_reducible refine step_append_lies (o := ⟨some 70, _, _, _, _, _⟩) (w1.alloc (.cells #[.int .i64 (x : Nat)] 3)) rfl (.tmp 66) (.tmp 69) 28 rfl w.heap.size 3 i0 (.int .i64 0) 1 8 Try.underlying28 Hi.out Z0.out Z1.out Z2.out rfl (by decide) vw wn.length (wn.map encN) ?ev HO.out ⟨w1.heap.size, 0, none⟩ 1 1 [.int .i64 (x : Nat)] ?ex rfl HNW.out ?oc (Nat.succ_pos 0) ?l1 ?l2 ?l3 (w1.heap.size + 1) ?l4 ?_)
               case ev => simp [Act.eval]
               case ex => simp [Act.eval]
               case oc => simp [Value.oneCell']
               case l1 => rw [HWN.out]; unfold maxLen; omega
               case l2 => rw [HWN.out]; omega
               case l3 => simp; omega
               case l4 => simp
               intro g' cap w2 hown hgrow hat hlt2
               obtain ⟨f1, d4, PS⟩ := OfL.push1 I.out L1.out hown hgrow hat
               have HP := Lib.hid PS; clear PS hown hgrow hat hlt2)
            | (go_simp; go_at_call 66; (with_reducible refine CN.out.mono ?_); rintro e w1 ⟨rfl, hr1, hk1⟩; have L1 := Lib.hid (LD.out.read I.out hr1 OK1.out hk1); have d2 := L1.out.sig.c.2.2.1; have d3 := cell_alloc1 d2 (.cells #[.int .i64 (x : Nat)] 3); have HO := Lib.hid (World.ownsRow.alloc L1.out.sig.own1 (.cells #[.int .i64 (x : Nat)] 3)); have HNW := Lib.hid (news_new w1 (.int .i64 (x : Nat)) 3); have hsz1 := L1.out.bel.size; clear hr1 hk1))
          all_goals
            go_wp2
            go_roundw
            case rel => exact ⟨k + 1, _, wn ++ [x], t1, by omega, by go_num, by rw [List.length_append, HWN.out]; rfl, HP.out, by rw [HQ.out, HQ2.out, show N - (k + 1) = f by have := HF.out; omega]⟩
            case measure => simp [intOf]; omega
        · have X1 := Lib.hid (show (itL nextC N [] s2).2 = t ∧ (t.e = 0 → (itL nextC N [] s2).1 = wn.map (fun n : Nat => (n : Int))) by
            by_cases hte : t.e = 0
            · obtain rfl : k = N := by
                have : ¬ k < N := fun h => hgo ⟨h, hte⟩
                omega
              rw [HQ.out, Nat.sub_self]
              exact ⟨rfl, fun _ => rfl⟩
            · rw [HQ.out, itL_err nextC t (nextC_err t HL.out.ok hte)]
              exact ⟨rfl, fun h => absurd h hte⟩)
          clear HQ
          have HW1 := Lib.hid (show ((k : Int) < (N : Int) ∧ (t.e == 0) = false) ∨ ¬ (k : Int) < (N : Int) by
            by_cases h : k < N
            · have : ¬ t.e = 0 := fun h2 => hgo ⟨h, h2⟩
              exact .inl ⟨by omega, by simp [this]⟩
            · exact .inr (by omega))
          clear hgo
          obtain ⟨a1, m1, k1, rfl⟩ := own_slice HL.out.sig.own1
          obtain ⟨i1', hi1, hy0, hy1, hy2⟩ := info_parts info_str
          have Hi1 := Lib.hid hi1; clear hi1
          have Y0 := Lib.hid hy0; clear hy0
          have Y1 := Lib.hid hy1; clear hy1
          have Y2 := Lib.hid hy2; clear hy2
          have HKN := Lib.hid (show wn.length ≤ 40000 by rw [HWN.out]; omega)
          clear HWN
          obtain ⟨w0, rfl⟩ : ∃ w0, w0 = wr := ⟨_, rfl⟩
          rcases HW1.out with ⟨i1, q1⟩ | i1
          all_goals
            clear HW1
            go_wp2
            clear ER
            go_loopw [8] (fun v wr => ∃ (j : Nat) (vs : Value) (ms : List Txt) (u : RS), j ≤ N ∧ v = .int .i64 j ∧ ms.length = j ∧ OfL (RefR S) w (w.heap.size + 2) (w.heap.size + 1) B M (.slice a1 m1 k1) vs wn ms u wr ∧ itL nextM N [] t = itL nextM (N - j) ms u) (fun v _ => N - (intOf v).toNat)
            case atStart => exact ⟨0, _, [], t, by omega, rfl, rfl, HL.out, rfl⟩
            case round =>
              clear HL
              obtain ⟨j, vs, ms, u, hj, rfl, hms, hL, heq⟩ := hrel
              have HMS := Lib.hid hms; clear hms
              have HL := Lib.hid hL; clear hL
              have HQ := Lib.hid heq; clear heq
              have ER := HL.out.rd.err
              by_cases hgo : j < N ∧ u.e = 0
              · obtain ⟨hlt, hte⟩ := hgo
                have q1 : (u.e == 0) = true := by simp [hte]
                clear hte
                obtain ⟨f, hf⟩ : ∃ f, N - j = f + 1 := ⟨N - j - 1, by omega⟩
                rw [hf] at HQ
                have HF := Lib.hid hf; clear hf
                have LD := Lib.hid (HL.out.new I.out (Below_drew (Below.refl _ wr)))
                have CN := Lib.hid (refRaw_any wr.drew (w.heap.size + 1) S u 32 32 rfl (by decide) LD.out.rd hS)
                have OK1 := Lib.hid (rRaw_ok u 32 LD.out.ok)
                have HQ2 := Lib.hid (show itL nextM (f + 1) ms u = itL nextM f (ms ++ [(nextM u).1]) (rRaw u 32).2 from rfl)
                rw [show rRaw u 32 = nextM u from rfl] at CN OK1 HQ2
                generalize (nextM u).1 = x at *
                generalize (nextM u).2 = u1 at *
                have d1 := HL.out.sig.c.2.2.2
                go_upto_region 17 with fail
                go_region_law (first
                  | ((with_reducible refine step_append_lies (o := ⟨some 89, _, _, _, _, _⟩) (w1.alloc (.cells #[.string ⟨x.toArray⟩] 9)) rfl (.tmp 85) (.tmp 88) 29 rfl w.heap.size 9 i1' (.string ByteArray.empty) 1 16 Try.underlying29 Hi1.out Y0.out Y1.out Y2.out rfl (by decide) vs ms.length (ms.map encT) ?ev HO.out ⟨w1.heap.size, 0, none⟩ 1 1 [.string ⟨x.toArray⟩] ?ex rfl HNW.out ?oc (Nat.succ_pos 0) ?l1 ?l2 ?l3 (w1.heap.size + 1) ?l4 ?_)
                     case ev => simp [Act.eval]
                     case ex => simp [Act.eval]
                     case oc => simp [Value.oneCell']
                     case l1 => rw [HMS.out]; unfold maxLen; omega
                     case l2 => rw [HMS.out]; omega
                     case l3 => simp; omega
                     case l4 => simp
                     intro g' cap w2 hown hgrow hat hlt2
                     obtain ⟨f1, d4, PS⟩ := OfL.push2 I.out L1.out hown hgrow hat
                     have HP := Lib.hid PS; clear PS hown hgrow hat hlt2)
                  | (go_simp; go_at_call 67; (with_reducible refine CN.out.mono ?_); rintro e w1 ⟨rfl, hr1, hk1⟩; have L1 := Lib.hid (LD.out.read I.out hr1 OK1.out hk1); have d2 := L1.out.sig.c.2.2.2; have d3 := cell_alloc1 d2 (.cells #[.string ⟨x.toArray⟩] 9); have HO := Lib.hid (World.ownsRow.alloc L1.out.sig.own2 (.cells #[.string ⟨x.toArray⟩] 9)); have HNW := Lib.hid (news_new w1 (.string ⟨x.toArray⟩) 9); have hsz1 := L1.out.bel.size; clear hr1 hk1))
                all_goals
                  go_wp2
                  go_roundw
                  case rel => exact ⟨j + 1, _, ms ++ [x], u1, by omega, by go_num, by rw [List.length_append, HMS.out]; rfl, HP.out, by rw [HQ.out, HQ2.out, show N - (j + 1) = f by have := HF.out; omega]⟩
                  case measure => simp [intOf]; omega
              · have X2 := Lib.hid (show (itL nextM N [] t).2 = u ∧ (u.e = 0 → (itL nextM N [] t).1 = ms) by
                  by_cases hte : u.e = 0
                  · obtain rfl : j = N := by
                      have : ¬ j < N := fun h => hgo ⟨h, hte⟩
                      omega
                    rw [HQ.out, Nat.sub_self]
                    exact ⟨rfl, fun _ => rfl⟩
                  · rw [HQ.out, itL_err nextM u (nextM_err u hte)]
                    exact ⟨rfl, fun h => absurd h hte⟩)
                clear HQ
                have HW2 := Lib.hid (show ((j : Int) < (N : Int) ∧ (u.e == 0) = false) ∨ ¬ (j : Int) < (N : Int) by
                  by_cases h : j < N
                  · have : ¬ u.e = 0 := fun h2 => hgo ⟨h, h2⟩
                    exact .inl ⟨by omega, by simp [this]⟩
                  · exact .inr (by omega))
                clear hgo
                have HT := Lib.hid (HOF.out t u (wn.map (fun n : Nat => (n : Int))) ms X1.out.1 X1.out.2 X2.out.1 X2.out.2)
                have EN := Lib.hid (refEnd_any wr (w.heap.size + 1) S u HL.out.rd hS)
                have OK2 := Lib.hid (rEnd_ok u HL.out.ok)
                obtain ⟨a2, m2, k2, rfl⟩ := own_slice HL.out.sig.own2
                obtain ⟨wz, rfl⟩ : ∃ wz, wz = wr := ⟨_, rfl⟩
                generalize rEnd u = u2 at *
                clear X1 X2 HOF
                rcases HW2.out with ⟨i2, q2⟩ | i2
                all_goals
                  clear HW2
                  go_wp2_with fail
                  refine EN.out.mono ?_
                  rintro e w9 ⟨rfl, hr9, hk9⟩
                  have L7 := Lib.hid (HL.out.read I.out hr9 OK2.out hk9)
                  clear hr9 hk9 HL ER
                  by_cases he : u2.e = 0
                  · have q1 : (u2.e != 0) = false := by simp [he]
                    have HT3 := Lib.hid (show rr = ⟨0, B, M, wn.map (fun n : Nat => (n : Int)), ms⟩ by rw [HT.out, if_neg (fun h => h he)])
                    clear HT he
                    obtain ⟨e0, e1, e2, e3⟩ := L7.out.sig.c
                    obtain ⟨s0', s1', s2', s3', s4', s5'⟩ := sig_store (b' := B) (n' := M) (vw' := .slice a1 m1 k1) (vs' := .slice a2 m2 k2) L7.out.res
                    have S0 := s0'.1
                    have S0f := s0'.2
                    have S1 := s1'.1
                    have S1f := s1'.2
                    have S2 := s2'.1
                    have S2f := s2'.2
                    have S3 := s3'.1
                    have S3f := s3'.2
                    have S4 := Lib.hid s4'
                    have S5 := Lib.hid s5'
                    clear s0' s1' s2' s3' s4' s5'
                    go_wp2
                    refine bodyPost_ret (v := .tuple #[sigV B M (.slice a1 m1 k1) (.slice a2 m2 k2), .int .i64 0]) (results_row_tmp Try.results32 _ _ w.heap.size _ _ _ _ rfl S4.out Try.underlying31 rfl sig_info) rfl ?_
                    rw [E.out, HE.out, HT3.out]
                    have hres := L7.out.res
                    exact ⟨_, _, rfl, row_int (OwnL.row (own_off L7.out.sig.own1 S5.out (fun g' cur hg _ e => by rw [e, hres] at hg; simp at hg))), OwnL.row (own_off L7.out.sig.own2 S5.out (fun g' cur hg _ e => by rw [e, hres] at hg; simp at hg)), L7.out.done S5.out⟩
                  · have q1 : (u2.e != 0) = true := by simp [he]
                    have HT3 := Lib.hid (show rr = ofZ u2.e by rw [HT.out, if_pos he])
                    clear HT he
                    obtain ⟨s0', s1', s2', s3', s4', s5'⟩ := sig_store (b' := 0) (n' := 0) (vw' := .slice none 0 0) (vs' := .slice none 0 0) L7.out.res
                    have S0 := s0'.1
                    have S0f := s0'.2
                    have S1 := s1'.1
                    have S1f := s1'.2
                    have S2 := s2'.1
                    have S2f := s2'.2
                    have S3 := s3'.1
                    have S3f := s3'.2
                    have S4 := Lib.hid s4'
                    have S5 := Lib.hid s5'
                    clear s0' s1' s2' s3' s4' s5'
                    go_wp2
                    refine bodyPost_ret (v := .tuple #[sigV 0 0 (.slice none 0 0) (.slice none 0 0), .int .i64 u2.e]) (results_row_tmp Try.results32 _ _ w.heap.size _ _ _ _ rfl S4.out Try.underlying31 rfl sig_info) rfl ?_
                    rw [E.out, HE.out, HT3.out]
                    exact zero_post _ _ _ (L7.out.done S5.out)
    · have HE := Lib.hid (show ofHead a c s2 = ofZ 5 by rw [HH.out, if_neg hbn])
      have hno := okS_no a c hbn hc0
      clear HH hbn
      obtain ⟨s0', s1', s2', s3', s4', s5'⟩ := sig_store (b' := 0) (n' := 0) (vw' := .slice none 0 0) (vs' := .slice none 0 0) L4.out.res
      have S0 := s0'.1
      have S0f := s0'.2
      have S1 := s1'.1
      have S1f := s1'.2
      have S2 := s2'.1
      have S2f := s2'.2
      have S3 := s3'.1
      have S3f := s3'.2
      have S4 := Lib.hid s4'
      have S5 := Lib.hid s5'
      clear s0' s1' s2' s3' s4' s5'
      by_cases h1 : a < 16
      · clear hno
        go_wp2
        refine bodyPost_ret (v := .tuple #[sigV 0 0 (.slice none 0 0) (.slice none 0 0), .int .i64 5]) (results_row_tmp Try.results32 _ _ w.heap.size _ _ _ _ rfl S4.out Try.underlying31 rfl sig_info) rfl ?_
        rw [E.out, HE.out]
        exact zero_post _ _ _ (L4.out.done S5.out)
      · by_cases h2 : 1024 < a
        · clear hno
          go_wp2
          refine bodyPost_ret (v := .tuple #[sigV 0 0 (.slice none 0 0) (.slice none 0 0), .int .i64 5]) (results_row_tmp Try.results32 _ _ w.heap.size _ _ _ _ rfl S4.out Try.underlying31 rfl sig_info) rfl ?_
          rw [E.out, HE.out]
          exact zero_post _ _ _ (L4.out.done S5.out)
        · have h3 : 524288 < c := by omega
          clear hno
          go_wp2
          refine bodyPost_ret (v := .tuple #[sigV 0 0 (.slice none 0 0) (.slice none 0 0), .int .i64 5]) (results_row_tmp Try.results32 _ _ w.heap.size _ _ _ _ rfl S4.out Try.underlying31 rfl sig_info) rfl ?_
          rw [E.out, HE.out]
          exact zero_post _ _ _ (L4.out.done S5.out)
  · have q0 : (s2.e != 0) = true := by simp [he]
    have HE := Lib.hid (show ofHead a c s2 = ofZ s2.e from if_pos he)
    obtain ⟨s0', s1', s2', s3', s4', s5'⟩ := sig_store (b' := 0) (n' := 0) (vw' := .slice none 0 0) (vs' := .slice none 0 0) L4.out.res
    have S0 := s0'.1
    have S0f := s0'.2
    have S1 := s1'.1
    have S1f := s1'.2
    have S2 := s2'.1
    have S2f := s2'.2
    have S3 := s3'.1
    have S3f := s3'.2
    have S4 := Lib.hid s4'
    have S5 := Lib.hid s5'
    clear s0' s1' s2' s3' s4' s5'
    have ER2 := RefRd.err (I.out.kept _ _ _ _ _ L4.out.rd S5.out (L4.out.off_rd I.out).2)
    clear he
    go_wp2
    go_region_law (fail)
    all_goals
      go_wp2
      refine bodyPost_ret (v := .tuple #[sigV 0 0 (.slice none 0 0) (.slice none 0 0), .int .i64 s2.e]) (results_row_tmp Try.results32 _ _ w.heap.size _ _ _ _ rfl S4.out Try.underlying31 rfl sig_info) rfl ?_
      rw [E.out, HE.out]
      exact zero_post _ _ _ (Below_drew (L4.out.done S5.out))
end Go.Proofs.Ytifbdbblfhphjaa
