/- Landed tree: Of, walked. -/
import Derived.Test.YtamiacmnobklaaaDoorArgTree
import Derived.Test.YtamiacmnobklaaaDoorBldShelf
import Derived.Test.YtamiacmnobklaaaDoorFtX
import Derived.Test.YtamiacmnobklaaaDoorFrame
import Derived.Test.YtamiacmnobklaaaDoorGen
import Derived.Test.YtamiacmnobklaaaDoorPtX
import Derived.Test.YtamiacmnobklaaaDoorMarkMath
import Derived.Test.YtamiacmnobklaaaDoorOfTMath
import Derived.Test.YtamiacmnobklaaaDoorOwnL
import Derived.Test.YtamiacmnobklaaaDoorPthX
import Derived.Test.YtamiacmnobklaaaDoorProg
import Derived.Test.YtamiacmnobklaaaDoorReadItW
import Derived.Test.YtamiacmnobklaaaDoorCdX
import Derived.Test.YtamiacmnobklaaaDoorRefOfTW
import Derived.Test.YtamiacmnobklaaaDoorRefRightTW
import Derived.Test.YtamiacmnobklaaaDoorRowN
import Derived.Test.YtamiacmnobklaaaDoorRows
import Derived.Test.YtamiacmnobklaaaDoorShelf
import Derived.Test.YtamiacmnobklaaaDoorSoX
import Derived.Test.YtamiacmnobklaaaDoorSortMath
import Derived.Test.YtamiacmnobklaaaDoorTreeMath
import Derived.Test.YtamiacmnobklaaaDoorTcX
import Derived.BigQuiet
import Derived.BigRegion
import Derived.Deep.Cut
import Derived.Deep.CutBlock
import Derived.Deep.CutRange
import Derived.Deep.DeepCutAuto
import Derived.Deep.QuietTactic
import Derived.Laws.Externs
import Derived.Laws.IdiomStrings
import Derived.Laws.OwnMore
import Derived.Laws.RangeAny
import Derived.Lib.AppendStr
import Derived.Lib.Builder
import Derived.Lib.Hide
import Derived.Lib.Strings
import Derived.Lib.Walk
import Derived.LoopTactic
import Derived.Outline
import Derived.Shelf.Strings.SplitCore
import Derived.StillTail
import Derived.WalkKit
import Derived.WalkLawsBesides
import Derived.WalkSpells
set_option linter.unusedVariables false
namespace Go.Proofs.YtamiacmnobklaaaDoor
open Go.RowKit

/-- Item by item: as readItem tells it. -/
theorem ofF_step (k : Nat) (r : RS) (last : Txt) (out : List ItemD) : ofF (k + 1) r last out =
    if (readS r last).2 ≠ 0 then ([], (readS r last).2, (oneR r).r) else ofF k (oneR r).r (readS r last).1.path (out ++ [(readS r last).1]) := by
  show (if (oneR r).r.e ≠ 0 then ([], (oneR r).r.e, (oneR r).r) else if shareBad last (oneR r).n (oneR r).rest then ([], 5, (oneR r).r) else _) = _
  by_cases h1 : (oneR r).r.e ≠ 0
  · have e : readS r last = (zeroI, (oneR r).r.e) := by unfold readS; rw [if_pos h1]
    rw [e, if_pos h1, if_pos h1]
  · by_cases h2 : shareBad last (oneR r).n (oneR r).rest
    · have e : readS r last = (zeroI, 5) := by unfold readS; rw [if_neg h1, if_pos h2]
      rw [e, if_neg h1, if_pos h2, if_pos (show ((5 : Int) ≠ 0) from by decide)]
    · have e : readS r last = (⟨last.take (oneR r).n.toNat ++ (oneR r).rest, (oneR r).mode, (oneR r).size, (oneR r).mark⟩, 0) := by unfold readS; rw [if_neg h1, if_neg h2]
      rw [e, if_neg h1, if_neg h2, if_neg (show ¬ ((0 : Int) ≠ 0) from by decide)]
theorem readS_len (r : RS) (last : Txt) (h : r.ok) (hl : last.length ≤ 400) : (readS r last).1.path.length ≤ 400 ∧ (readS r last).1.mark.length ≤ 32 := by
  obtain ⟨c, s1, t, s2, md, s3, sz, s4, mk, s5, _, _, _, _, _, hor, hc, ht, hmk, _⟩ := oneR_steps r h
  rw [readS_of hor]
  by_cases h1 : s5.e ≠ 0
  · rw [if_pos h1]; exact ⟨by simp [zeroI], by simp [zeroI]⟩
  · rw [if_neg h1]
    by_cases h2 : shareBad last (c : Int) t
    · rw [if_pos h2]; exact ⟨by simp [zeroI], by simp [zeroI]⟩
    · rw [if_neg h2]
      refine ⟨?_, hmk⟩
      show (last.take ((c : Int)).toNat ++ t).length ≤ 400
      rw [List.length_append, List.length_take]
      omega
theorem readS_itok (r : RS) (last : Txt) (h : r.ok) (hl : last.length ≤ 400) : ItemOk (readS r last).1 := by
  obtain ⟨hp, hk⟩ := readS_len r last h hl
  obtain ⟨c, s1, t, s2, md, s3, sz, s4, mk, s5, _, _, h3, h4, _, hor, _, _, _, _, k2, k3, _⟩ := oneR_steps r h
  obtain ⟨m, hm, hm2⟩ := rNum_natT s2 k2
  obtain ⟨z, hz, hz2⟩ := rNum_natT s3 k3
  rw [h3] at hm
  rw [h4] at hz
  dsimp only at hm hz
  have key : (readS r last).1.mode = md ∧ (readS r last).1.size = sz ∨ (readS r last).1.mode = 0 ∧ (readS r last).1.size = 0 := by
    rw [readS_of hor]
    by_cases h1 : s5.e ≠ 0
    · rw [if_pos h1]; exact .inr ⟨rfl, rfl⟩
    · rw [if_neg h1]
      by_cases h2 : shareBad last (c : Int) t
      · rw [if_pos h2]; exact .inr ⟨rfl, rfl⟩
      · rw [if_neg h2]; exact .inl ⟨rfl, rfl⟩
  refine ⟨by omega, ?_, ?_, by omega⟩ <;> rcases key with ⟨a, b⟩ | ⟨a, b⟩ <;> omega
theorem OwnN.rd {w w' : World} {base g : Nat} {v : Value} {xs : List ItemD} {s : RS} (h : OwnN encI 4 w base 67 v xs) (hr : Rd w g s) (hk : Kept (· = g) w w') : OwnN encI 4 w' base 67 v xs := by
  refine own_off h hk (fun g' cur hg _ e => ?_)
  have e' : g' = g := e
  subst e'
  rw [show w.heap[g']? = _ from hr] at hg
  injection hg with hg
  injection hg with _ hg _
  exact absurd hg (by decide)
theorem OwnN.ne_rd {w : World} {base g : Nat} {v : Value} {xs : List ItemD} {s : RS} (h : OwnN encI 4 w base 67 v xs) (hr : Rd w g s) : ¬ v.ownBlock = some g := by
  intro e
  obtain ⟨_, _, cur, hc⟩ := h.lt e
  rw [show w.heap[g]? = _ from hr] at hc
  injection hc with hc
  injection hc with _ hc _
  exact absurd hc (by decide)
theorem oneR_left (s : RS) (h : s.ok) : (oneR s).r.ok := by
  obtain ⟨_, _, _, _, _, _, _, _, _, _, _, _, _, _, _, hor, _, _, _, _, _, _, _, k⟩ := oneR_steps s h
  rw [hor]; exact k
set_option maxRecDepth 100000 in
set_option maxHeartbeats 2000000 in
theorem tOf_at (s : Txt) (w : World) (hs : s.length ≤ 100000) :
    Calls Tryd.prog 46 #[.string ⟨s.toArray⟩] w fun e w' => ∃ v', e = .returned (.tuple #[v', .int .i64 (ofS s).2]) ∧ RowN encI 4 (w.heap.size ≤ ·) w' v' (ofS s).1 ∧ Below w.heap.size w w' := by
  have hok0 : (⟨s, 0⟩ : RS).ok := .inl rfl
  have RD := Lib.hid (read_any s w)
  have CN := Lib.hid (fun w' (hr : Rd w' w.heap.size ⟨s, 0⟩) => count_any w' w.heap.size ⟨s, 0⟩ 256 hr hok0)
  obtain ⟨c0, hc0, hc256⟩ := rCount_small ⟨s, 0⟩ 256 hok0
  have hc0' : (rCount ⟨s, 0⟩ 256).1 = (c0 : Int) := hc0
  have hok1 := rCount_ok ⟨s, 0⟩ 256 hok0
  have HOF := Lib.hid (show ofS s = ofEnd (ofF c0 (rCount ⟨s, 0⟩ 256).2 [] []).1 (ofF c0 (rCount ⟨s, 0⟩ 256).2 [] []).2.1 (ofF c0 (rCount ⟨s, 0⟩ 256).2 [] []).2.2 by
    unfold ofS
    rw [hc0', Int.toNat_natCast])
  rw [hc0'] at CN
  generalize (rCount ⟨s, 0⟩ 256).2 = s1 at *
  generalize ofS s = res at *
  obtain ⟨FIN, hF⟩ : ∃ FIN, FIN = ofF c0 s1 [] [] := ⟨_, rfl⟩
  rw [← hF] at HOF
  have HF0 := Lib.hid (show ofF (c0 - 0) s1 [] [] = FIN from hF.symm)
  clear hF
  clear hc0 hc0' hok0
  go_enter Tryd.func46, Tryd.ntmps46
  go_wp2_with fail
  refine RD.out.mono ?_
  rintro e w1 ⟨rfl, hr1, hb1⟩
  have CN1 := Lib.hid (CN.out w1 hr1)
  have HB1 := Lib.hid hb1
  have hlt1 := hr1.lt
  clear hr1 hb1 RD CN
  go_wp2_with fail
  refine CN1.out.mono ?_
  rintro e w2 ⟨rfl, hr2, hk2⟩
  have HR2 := Lib.hid hr2
  have HB2 := Lib.hid (HB1.out.trans (hk2.below HB1.out.size (fun k e => by omega)))
  clear hr2 hk2 CN1 HB1 hlt1
  obtain ⟨g, hg⟩ : ∃ g, g = w.heap.size := ⟨_, rfl⟩
  rw [← hg] at HR2 ⊢
  have hgw : w.heap.size ≤ g := by omega
  clear hg
  go_wp2_with fail
  go_loopw [4, 6, 15] (fun v4 v6 v15 wr => ∃ (i : Nat) (out : List ItemD) (last : Txt) (r : RS), v15 = .int .i64 i ∧ i ≤ c0 ∧ OwnN encI 4 wr w.heap.size 67 v4 out ∧ v6 = .string ⟨last.toArray⟩ ∧ Rd wr g r ∧ r.ok ∧ last.length ≤ 400 ∧ out.length = i ∧ (∀ x ∈ out, ItemOk x) ∧ Hid (ofF (c0 - i) r last out = FIN) ∧ Below w.heap.size w wr) (fun _ _ v15 _ => c0 - (intOf v15).toNat)
  case atStart => exact ⟨0, [], [], s1, rfl, by omega, OwnN.nil _ _ _ _ _, rfl, HR2.out, hok1, by simp, rfl, fun x h => by simp at h, HF0, HB2.out⟩
  case round =>
    clear HR2 HB2 HF0 hok1
    obtain ⟨i, out, last, r, rfl, hi, hown, rfl, hrd, hrok, hll, hol, hio, HA, hbel⟩ := hrel
    have HB := Lib.hid hbel
    have HR := Lib.hid hrd
    have HO := Lib.hid hown
    have HIO := Lib.hid hio
    clear hbel hrd hown hio
    have i0 : (0 : Int) ≤ (i : Int) := by omega
    have hol2 : out.length ≤ 256 := by omega
    have HOL := Lib.hid hol
    clear hol
    obtain ⟨oa, om, oc, hv4⟩ := own_slice HO.out
    subst hv4
    by_cases hlt : i < c0
    · have j1 : (i : Int) < (c0 : Int) := by omega
      have RI := Lib.hid (readItem_any wr g r last HR.out hrok (by omega))
      have hrok2 := oneR_left r hrok
      have HIT := Lib.hid (readS_itok r last hrok hll)
      obtain ⟨hpl, hkl⟩ := readS_len r last hrok hll
      have HST := Lib.hid (show ofF (c0 - i) r last out = if (readS r last).2 ≠ 0 then ([], (readS r last).2, (oneR r).r) else ofF (c0 - (i + 1)) (oneR r).r (readS r last).1.path (out ++ [(readS r last).1]) by
        rw [show c0 - i = (c0 - (i + 1)) + 1 by omega]; exact ofF_step _ r last out)
      generalize readS r last = rs at *
      generalize (oneR r).r = r2 at *
      obtain ⟨⟨p, md, sz, mk⟩, er⟩ := rs
      dsimp only at RI HIT HST hpl hkl
      by_cases her : er = 0
      · have q1 : (er != 0) = false := by simp [her]
        have HN := Lib.hid (show ofF (c0 - (i + 1)) r2 p (out ++ [⟨p, md, sz, mk⟩]) = FIN by rw [← HA.out, HST.out]; exact (if_neg (fun h => h her)).symm)
        clear her HST HA
        go_wp2_with fail
        refine RI.out.mono ?_
        rintro e w3 ⟨rfl, hr3, hk3⟩
        have HO3 := Lib.hid (OwnN.rd HO.out HR.out hk3)
        have HB3 := Lib.hid (HB.out.trans (hk3.below HB.out.size (fun k e => by omega)))
        have hbw : Below w3.heap.size w3 (w3.alloc (.cells #[.string ⟨p.toArray⟩, .int .i64 md, .int .i64 sz, .string ⟨mk.toArray⟩] 67)) := (Below.refl _ w3).alloc (Nat.le_refl _) _
        have HNW := Lib.hid (heap_alloc_new w3 (.cells #[.string ⟨p.toArray⟩, .int .i64 md, .int .i64 sz, .string ⟨mk.toArray⟩] 67))
        have HO4 := Lib.hid (HO3.out.new hbw)
        have HR4 := Lib.hid (hr3.kept (Kept.new hbw (fun _ => False)) id)
        have HB4 := Lib.hid (HB3.out.trans (hbw.mono HB3.out.size))
        have HON := Lib.hid (fun e => (OwnN.lt HO3.out (g := w3.heap.size) e).2.1)
        have HSZ := Lib.hid (show (w3.alloc (.cells #[.string ⟨p.toArray⟩, .int .i64 md, .int .i64 sz, .string ⟨mk.toArray⟩] 67)).heap.size = w3.heap.size + 1 by simp)
        have HNR := Lib.hid (HO4.out.ne_rd HR4.out)
        clear hr3 hk3 HO3 HB3 hbw RI HO HR HB
        go_wp2_with (at_builtin; go_loud (refine append_new (enc := encI) (k := 4) (w := (w3.alloc (.cells #[.string ⟨p.toArray⟩, .int .i64 md, .int .i64 sz, .string ⟨mk.toArray⟩] 67))) (by rfl) (.tmp 26) (.tmp 28) 59 67 (.agg #[.string ByteArray.empty, .int .i64 0, .int .i64 0, .string ByteArray.empty]) 48 (by rfl) Tryd.underlying59 info_item (by rfl) (by decide) encI_ok w.heap.size _ out ⟨p, md, sz, mk⟩ (by rfl) HO4.out (by rw [HSZ.out]; rfl) (by omega) (by unfold maxLen; omega) HB4.out.size _ (by rfl) ?_; intro v7 w7 hown7 ht7; have c9 : w7.cell? ⟨w3.heap.size, 0, none⟩ = some (.string ⟨p.toArray⟩) := (cell_of_row _ _ _ _ _ _ (ht7.kept.old HNW.out (fun e => by have := HON.out e; omega))).trans rfl; have HR7 := Lib.hid (HR4.out.kept ht7.kept HNR.out); obtain ⟨va7, vm7, vc7, rfl⟩ := own_slice hown7; have HO7 := Lib.hid hown7; have HB7 := Lib.hid (HB4.out.trans ht7.bel); clear hown7 ht7))
        have HW7 := Lib.hid c9
        go_roundw
        case rel => exact ⟨i + 1, out ++ [⟨p, md, sz, mk⟩], p, r2, by go_num, hlt, HO7.out, rfl, HR7.out, hrok2, hpl, by rw [List.length_append]; have := HOL.out; simp; omega, fun x hx => by
          rw [List.mem_append, List.mem_singleton] at hx
          rcases hx with hx | rfl
          · exact HIO.out x hx
          · exact HIT.out, HN, HB7.out⟩
        case measure => simp [intOf]; omega
      · have q1 : (er != 0) = true := by simp [her]
        have HE := Lib.hid (show FIN = ([], er, r2) by rw [← HA.out, HST.out]; exact if_pos her)
        have HRE := Lib.hid (show res = ([], er) by rw [HOF.out, HE.out]; unfold ofEnd; (try dsimp only); rw [if_pos her])
        clear her HST HA
        go_wp2_with fail
        refine RI.out.mono ?_
        rintro e w3 ⟨rfl, hr3, hk3⟩
        have HB3 := Lib.hid (HB.out.trans (hk3.below HB.out.size (fun k e => by omega)))
        clear hr3 hk3 RI HO HR HB
        have hbw : Below w3.heap.size w3 (w3.alloc (.cells #[.string ⟨p.toArray⟩, .int .i64 md, .int .i64 sz, .string ⟨mk.toArray⟩] 67)) := (Below.refl _ w3).alloc (Nat.le_refl _) _
        have HB4 := Lib.hid (HB3.out.trans (hbw.mono HB3.out.size))
        clear hbw
        go_wp2_with fail
        go_ret2
        exact ⟨_, by rw [HRE.out]; rfl, by rw [HRE.out]; exact RowN.nil _ _ _ _, HB4.out⟩
    · have hic : i = c0 := by omega
      subst hic
      have j1 : ¬ (i : Int) < (i : Int) := by omega
      have HE := Lib.hid (show FIN = (out, 0, r) by rw [← HA.out, show i - i = 0 by omega]; rfl)
      have EN := Lib.hid (end_any wr g r HR.out)
      have HRE := Lib.hid (show res = if (rEnd r).e ≠ 0 then ([], (rEnd r).e) else if rightS out ≠ 0 then ([], rightS out) else (out, 0) by rw [HOF.out, HE.out]; unfold ofEnd; (try dsimp only); rw [if_neg (by simp)])
      have RT0 := Lib.hid (fun w' (h : RowN encI 4 (fun _ => True) w' (.slice oa om oc) out) => tRight_any _ out w' h HIO.out (by omega))
      clear HA HE HOF hrok hll
      generalize (rEnd r).e = ee at *
      generalize rightS out = rs at *
      go_wp2_with fail
      refine EN.out.mono ?_
      rintro e w2 ⟨rfl, hr2, hk2⟩
      have HO2 := Lib.hid (OwnN.rd HO.out HR.out hk2)
      have HB2 := Lib.hid (HB.out.trans (hk2.below HB.out.size (fun k e => by omega)))
      clear hr2 hk2 EN HO HB HR
      by_cases hen : ee = 0
      · have m1 : (ee != 0) = false := by simp [hen]
        rw [if_neg (fun h => h hen)] at HRE
        have RT := Lib.hid (RT0.out w2 ((OwnN.row encI_ok HO2.out).mono (fun _ _ => trivial)))
        clear hen RT0
        go_wp2_with fail
        refine RT.out.mono ?_
        rintro e w3 ⟨rfl, hb3⟩
        have HO3 := Lib.hid (HO2.out.new hb3)
        have HB3 := Lib.hid (HB2.out.trans (hb3.mono HB2.out.size))
        clear hb3 RT HO2 HB2
        by_cases hrs : rs = 0
        · have m2 : (rs != 0) = false := by simp [hrs]
          rw [if_neg (fun h => h hrs)] at HRE
          clear hrs
          go_wp2_with fail
          go_ret2
          exact ⟨_, by rw [HRE.out]; rfl, by rw [HRE.out]; exact OwnN.row encI_ok HO3.out, HB3.out⟩
        · have m2 : (rs != 0) = true := by simp [hrs]
          rw [if_pos hrs] at HRE
          go_wp2_with fail
          go_ret2
          exact ⟨_, by rw [HRE.out]; rfl, by rw [HRE.out]; exact RowN.nil _ _ _ _, HB3.out⟩
      · have m1 : (ee != 0) = true := by simp [hen]
        rw [if_pos hen] at HRE
        go_wp2_with fail
        go_ret2
        exact ⟨_, by rw [HRE.out]; rfl, by rw [HRE.out]; exact RowN.nil _ _ _ _, HB2.out⟩
theorem tOf_any (s : Txt) (w : World) (hs : s.length ≤ 100000) :
    Calls Tryd.prog 46 #[.string ⟨s.toArray⟩] w fun e w' => ∃ v', e = .returned (.tuple #[v', .int .i64 (ofS s).2]) ∧ RowN encI 4 (fun _ => True) w' v' (ofS s).1 ∧ Below w.heap.size w w' :=
  (tOf_at s w hs).mono fun e w' ⟨v', h1, h2, h3⟩ => ⟨v', h1, h2.mono (fun _ _ => trivial), h3⟩
end Go.Proofs.YtamiacmnobklaaaDoor
