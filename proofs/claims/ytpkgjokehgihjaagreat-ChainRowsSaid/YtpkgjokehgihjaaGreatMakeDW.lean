/- The walk of Make: a table by any signature, asked by any book. -/
import Derived.Test.YtpkgjokehgihjaaGreatTabX
import Derived.Test.YtpkgjokehgihjaaGreatBookW
import Derived.Test.YtpkgjokehgihjaaGreatBytesW
import Derived.Test.YtpkgjokehgihjaaGreatDelX
import Derived.Test.YtpkgjokehgihjaaGreatFrame
import Derived.Test.YtpkgjokehgihjaaGreatGen
import Derived.Test.YtpkgjokehgihjaaGreatInfos
import Derived.Test.YtpkgjokehgihjaaGreatMarkMath
import Derived.Test.YtpkgjokehgihjaaGreatGaX
import Derived.Test.YtpkgjokehgihjaaGreatNewTabW
import Derived.Test.YtpkgjokehgihjaaGreatOwnL
import Derived.Test.YtpkgjokehgihjaaGreatProg
import Derived.Test.YtpkgjokehgihjaaGreatRightW
import Derived.Test.YtpkgjokehgihjaaGreatRollMath
import Derived.Test.YtpkgjokehgihjaaGreatRowKeep
import Derived.Test.YtpkgjokehgihjaaGreatRows
import Derived.Test.YtpkgjokehgihjaaGreatSearchDW
import Derived.Test.YtpkgjokehgihjaaGreatShelf
import Derived.Test.YtpkgjokehgihjaaGreatSigAt
import Derived.Test.YtpkgjokehgihjaaGreatSignAW
import Derived.Test.YtpkgjokehgihjaaGreatSignMath
import Derived.Test.YtpkgjokehgihjaaGreatSortX
import Derived.Test.YtpkgjokehgihjaaGreatSortEW
import Derived.BigQuiet
import Derived.BigRegion
import Derived.ChangeAlike
import Derived.Deep.CutBlock
import Derived.Deep.DeepCutAuto
import Derived.Deep.QuietTactic
import Derived.Deep.RegionLaw
import Derived.IntWalk
import Derived.Laws.BitsAllLaws
import Derived.Laws.MakeOwn
import Derived.Laws.Rows
import Derived.Laws.Tables
import Derived.Lib.Hide
import Derived.Outline
import Derived.RegionTactic
import Derived.Sort.Walk0
import Derived.StillTailTactics
import Derived.WalkKit
import Derived.WalkLawsBesides
import Derived.WalkSpells
set_option linter.unusedVariables false
namespace Go.Proofs.YtpkgjokehgihjaaGreat
open Go.RowKit

def mtP (is : Txt → Txt → Bool) (ws : List Int) (ms : List Txt) (N B : Nat) (t : Txt) (wanted : Int) : Int := matchP (pOf (is t) ws ms (wk t : Nat)) N B t wanted
def tlP (is : Txt → Txt → Bool) (ws : List Int) (ms : List Txt) (N B M : Nat) (t : Txt) : Bool := tailZ (is t) ws ms N B M t
/-- The steps for a text by a signature and a book. -/
def makeS (is : Txt → Txt → Bool) (ws : List Int) (ms : List Txt) (B M : Nat) (s : Txt) : List DSt := stepsS (mtP is ws ms (M / B) B) (tlP is ws ms (M / B) B M) M B s
/-- A book takes one mark of a text alone. -/
def OneM (is : Txt → Txt → Bool) : Prop := ∀ t m m', is t m = true → is t m' = true → m = m'

theorem tab_I {n pb : Nat} {At : World → Prop} {is : Txt → Txt → Bool} (A : AskI n pb At is) (hn1 : 100000 ≤ n) (hn2 : n ≤ 140737488351232) (hone : OneM is) {w : World} {base p B M : Nat} {ws : List Int} {ms : List Txt} {vw vs vo : Value} {ord : List Nat}
    (h : TabAt w base p B M ws ms vw vs vo ord) (hO : OrdIs ws ms (M / B) ord) (hR : RightIs B M ws ms B M) (hAt : At w) : TabI w p pb M B (mtP is ws ms (M / B) B) (tlP is ws ms (M / B) B M) := by
  have hlw := hR.lw
  have hlm := hR.lm
  have hq := hR.q
  have hb1 := hR.b1
  have hb2 := hR.b2
  have hm2 := hR.n2
  have hN : M / B ≤ ws.length := by rw [hlw]; exact Nat.div_le_div_right (by omega)
  have hN4 : M / B ≤ 40000 := by omega
  refine ⟨fun w' t wanted hb ht => ?_, fun w' t hb ht => ?_, fun w' hb => ?_, fun w' hb => ?_, hb1, hb2, hm2, fun t wanted => ?_⟩
  · have := tabMatch_ask p B M pb n At is A t ws ms vw vs vo ord base (M / B) (wk t : Nat) wanted w' (h.on hb) hO hN (by omega) (by omega) (by omega) (A.new hAt hb) (by omega) hn2
    rw [matchZ_P hO (hone t)] at this
    exact this
  · exact tabTail_ask p B M pb n At is A t ws ms vw vs vo ord base (M / B) w' (h.on hb) hO hN (by omega) (by omega) (Nat.div_mul_le_self _ _) (by omega) hb2 (A.new hAt hb) (by omega) hn1
  · exact tabSize_any p B M vw vs vo w' (h.on hb).tab
  · exact tabBlock_any p B M vw vs vo w' (h.on hb).tab
  · rcases Int.lt_or_le (mtP is ws ms (M / B) B t wanted) 0 with c | c
    · omega
    · obtain ⟨i, h1, h2, _⟩ := matchP_spec (P := pOf (is t) ws ms (wk t : Nat)) (N := M / B) (B := B) (t := t) (wanted := wanted) (by unfold mtP at c; omega)
      unfold mtP
      rw [h1]; omega

set_option maxRecDepth 100000 in
set_option maxHeartbeats 1000000 in
theorem make_ok {n pb : Nat} {At : World → Prop} {is : Txt → Txt → Bool} (A : AskI n pb At is) (hn1 : 100000 ≤ n) (hn2 : n ≤ 140737488351232) (hone : OneM is) (B M : Nat) (ws : List Int) (ms : List Txt) (vw vs : Value) (N1 N2 : Nat → Prop) (s : Txt) (w : World)
    (h1 : Row (Value.int .i64) N1 w vw ws) (h2 : Row encT N2 w vs ms) (hr : rightS B M ws ms = true) (hR : RightIs B M ws ms B M) (hAt : At w) (hs : s.length ≤ 524288) :
    Calls Tryz.prog 23 #[.pointer (some ⟨pb, 0, none⟩), sigV B M vw vs, .string ⟨s.toArray⟩] w fun e w' => ∃ v, e = .returned (.tuple #[v, .int .i64 0]) ∧ OwnS w' w.heap.size v (makeS is ws ms B M s) ∧ Below w.heap.size w w' := by
  obtain ⟨a1, m1, k1, rfl⟩ := h1.slice
  obtain ⟨a2, m2, k2, rfl⟩ := h2.slice
  have SL := Lib.hid (show (⟨s.toArray⟩ : ByteArray).size = s.length from rfl)
  have B0 := Lib.hid (below_self_alloc w (sigC B M (.slice a1 m1 k1) (.slice a2 m2 k2)))
  have NT := Lib.hid (newTable_ok B M ws ms (.slice a1 m1 k1) (.slice a2 m2 k2) N1 N2 _ (h1.keep B0.out) (h2.keep B0.out) hr hR)
  have HA := Lib.hid (A.new hAt B0.out)
  have TI := Lib.hid (fun base p vw vs vo ord w' (h : TabAt w' base p B M ws ms vw vs vo ord) hO hAt => tab_I A hn1 hn2 hone h hO hR hAt)
  have AN := Lib.hid (show ∀ (a b : World), At a → Below a.heap.size a b → At b from fun a b => A.new)
  have SR := Lib.hid (fun p w' I => searchD_any p pb M B (mtP is ws ms (M / B) B) (tlP is ws ms (M / B) B M) s w' I hs)
  have HMS := Lib.hid (show makeS is ws ms B M s = stepsS (mtP is ws ms (M / B) B) (tlP is ws ms (M / B) B M) M B s from rfl)
  generalize makeS is ws ms B M s = OUT at *
  clear A h1 h2 hr hR hAt hone
  go_enter Tryz.func23, Tryz.ntmps23
  go_wp2_with fail
  generalize w.alloc (.cells #[.int .i64 B, .int .i64 M, .slice a1 m1 k1, .slice a2 m2 k2] 58) = w0 at *
  refine NT.out.mono ?_
  rintro e w1 ⟨p, vw', vs', vo, ord, rfl, hT, hO, hb1⟩
  have B1 := Lib.hid (B0.out.trans (hb1.mono B0.out.size))
  have SC := Lib.hid (SR.out p w1 (TI.out _ _ _ _ _ _ _ hT hO (AN.out _ _ HA.out hb1)))
  clear hb1 hT hO NT TI SR
  rw [← HMS.out] at SC
  have q1 : ((0 : Int) != 0) = false := rfl
  have q2 : ¬ (524288 : Int) < (s.length : Int) := by omega
  go_wp2_with fail
  refine SC.out.mono ?_
  rintro e w2 ⟨v, rfl, ho, hb2⟩
  have HO2 := Lib.hid (ho.mono B1.out.size)
  have B2 := Lib.hid (B1.out.trans (hb2.mono B1.out.size))
  clear ho hb2
  go_wp2_with fail
  go_ret2
  exact ⟨_, rfl, HO2.out, B2.out⟩
set_option maxRecDepth 100000 in
set_option maxHeartbeats 1000000 in
theorem make_no (bp : Value) (b n : Int) (ws : List Int) (ms : List Txt) (vw vs : Value) (N1 N2 : Nat → Prop) (s : Txt) (w : World)
    (h1 : Row (Value.int .i64) N1 w vw ws) (h2 : Row encT N2 w vs ms) (hl1 : ws.length ≤ 1000000) (hl2 : ms.length ≤ 1000000) (hr : rightS b n ws ms = false) :
    Calls Tryz.prog 23 #[bp, sigV b n vw vs, .string ⟨s.toArray⟩] w fun e w' => e = .returned (.tuple #[.slice none 0 0, .int .i64 1]) ∧ Below w.heap.size w w' := by
  obtain ⟨a1, m1, k1, rfl⟩ := h1.slice
  obtain ⟨a2, m2, k2, rfl⟩ := h2.slice
  have B0 := Lib.hid (below_self_alloc w (sigC b n (.slice a1 m1 k1) (.slice a2 m2 k2)))
  have NT := Lib.hid (newTable_no b n ws ms (.slice a1 m1 k1) (.slice a2 m2 k2) N1 N2 _ (h1.keep B0.out) (h2.keep B0.out) hl1 hl2 hr)
  clear h1 h2 hr
  go_enter Tryz.func23, Tryz.ntmps23
  go_wp2_with fail
  refine NT.out.mono ?_
  rintro e w1 ⟨rfl, hb1⟩
  have B1 := Lib.hid (B0.out.trans (hb1.mono B0.out.size))
  clear hb1 NT
  have q1 : ((1 : Int) != 0) = true := rfl
  go_wp2_with fail
  go_ret2
  exact ⟨rfl, B1.out⟩
end Go.Proofs.YtpkgjokehgihjaaGreat
