/- The walk of the law SignReals. -/
import Derived.Test.YtifbdbblfhphjaaBookW
import Derived.Test.YtifbdbblfhphjaaCells
import Derived.Test.YtifbdbblfhphjaaFrame
import Derived.Test.YtifbdbblfhphjaaGen
import Derived.Test.YtifbdbblfhphjaaInfos
import Derived.Test.YtifbdbblfhphjaaMarkMath
import Derived.Test.YtifbdbblfhphjaaShaP
import Derived.Test.YtifbdbblfhphjaaOps3
import Derived.Test.YtifbdbblfhphjaaOwnL
import Derived.Test.YtifbdbblfhphjaaShaR
import Derived.Test.YtifbdbblfhphjaaRealW
import Derived.Test.YtifbdbblfhphjaaRealsW
import Derived.Test.YtifbdbblfhphjaaRefBookW
import Derived.Test.YtifbdbblfhphjaaRefSignW
import Derived.Test.YtifbdbblfhphjaaRollMath
import Derived.Test.YtifbdbblfhphjaaRowB
import Derived.Test.YtifbdbblfhphjaaRows
import Derived.Test.YtifbdbblfhphjaaSAwakeW
import Derived.Test.YtifbdbblfhphjaaSameW
import Derived.Test.YtifbdbblfhphjaaShelf
import Derived.Test.YtifbdbblfhphjaaSigAt
import Derived.Test.YtifbdbblfhphjaaSignAW
import Derived.Test.YtifbdbblfhphjaaSignBW
import Derived.Test.YtifbdbblfhphjaaSignMath
import Derived.Test.YtifbdbblfhphjaaSignSignsW
import Derived.Test.YtifbdbblfhphjaaSignW
import Derived.Test.YtifbdbblfhphjaaWeak2W
import Derived.BigQuiet
import Derived.Deep.CutBlock
import Derived.Deep.DeepCutAuto
import Derived.Deep.QuietTactic
import Derived.Deep.RegionHeld3
import Derived.IntWalk
import Derived.Laws.BitsAllLaws
import Derived.Laws.CopyRow
import Derived.Laws.IdiomCopy
import Derived.Laws.Rows
import Derived.Laws.Tables
import Derived.Lib.Hide
import Derived.Lib.SliceRun
import Derived.Outline
import Derived.StillTail
import Derived.StillTailTactics
import Derived.WalkKit
import Derived.WalkLawsBesides
import Derived.WalkSpells
set_option linter.unusedVariables false
namespace Go.Proofs.Ytifbdbblfhphjaa
open Go.RowKit

def FP (p kb : Nat) (_ : Unit) (k : Nat) : Prop := k = p ∨ k = kb
theorem book_real (p kb : Nat) : BookI 43 (.pointer (some ⟨p, 0, none⟩)) (fun w (_ : Unit) => RealAt w p kb) (FP p kb) (fun _ _ _ => True) (fun _ => realM) (fun _ _ => True) := by
  refine ⟨fun w s t n hat hok ht => ?_, fun w s k hat hk => ?_, fun w w' s M hat hk hM => ?_⟩
  · refine (mark_real w p kb t hat (by omega)).mono ?_
    rintro e w' ⟨rfl, hb⟩
    exact ⟨(), rfl, trivial, trivial, hat.new hb, Kept.new hb _, fun k h => .inl h⟩
  · rcases hk with rfl | rfl
    · exact hat.lt.1
    · exact hat.lt.2
  · exact hat.kept hk (hM _ (.inl rfl)) (hM _ (.inr rfl))
def FQ (q : Nat) (_ : Unit) (k : Nat) : Prop := k = q
theorem book_refReal (q : Nat) : BookI 44 (.pointer (some ⟨q, 0, none⟩)) (fun w (_ : Unit) => RefRealAt w q) (FQ q) (fun _ _ _ => True) (fun _ => realM) (fun _ _ => True) := by
  refine ⟨fun w s t n hat hok ht => ?_, fun w s k hat hk => ?_, fun w w' s M hat hk hM => ?_⟩
  · refine (refMark_real w q t hat (by omega)).mono ?_
    rintro e w' ⟨rfl, hb⟩
    exact ⟨(), rfl, trivial, trivial, hat.new hb, Kept.new hb _, fun k h => .inl h⟩
  · have : k = q := hk
    subst this
    exact (Array.getElem?_eq_some_iff.1 hat).1
  · exact hk.old hat (hM _ rfl)

set_option maxRecDepth 100000 in
set_option maxHeartbeats 4000000 in
theorem signReals_bad (s : Txt) (hs : s.length ≤ 140737488351232) (z : Int) (hz : z < 16 ∨ 1024 < z) (w : World) :
    Calls Try.prog 5 #[.string ⟨s.toArray⟩, .int .i64 z] w fun e w' => e = .returned (.bool true) ∧ Below w.heap.size w w' := by
  have CT := fun w' => Lib.hid (cut_any s 200 w' (by decide) hs)
  generalize s.take 200 = l at *
  have S1 := fun bp w' => Lib.hid (sign_arg bp l z w' hz)
  have S2 := fun bp w' => Lib.hid (refSign_arg bp l z w' hz)
  clear hz
  go_enter Try.func5, Try.ntmps5
  go_wp2_with fail
  refine (CT _).out.mono ?_
  rintro e w' ⟨rfl, rfl⟩
  go_wp2_with fail
  refine (real_any _).mono ?_
  rintro e w1 ⟨p, kb, rfl, hid1, hp, hkb, hb1⟩
  have HB1 := Lib.hid hb1; clear hid1 hb1
  go_wp2_with fail
  refine (S1 _ _).out.mono ?_
  rintro e w2 ⟨rfl, hb2⟩
  have HB2 := Lib.hid (HB1.out.trans (hb2.mono HB1.out.size)); clear hb2
  have G6 := Lib.hid (heap_later (heap_alloc_new w2 (sigC 0 0 (.slice none 0 0) (.slice none 0 0))) (.cells #[.bool true, .slice none 0 0] 38))
  have HB3 := Lib.hid (below_alloc (below_alloc HB2.out (sigC 0 0 (.slice none 0 0) (.slice none 0 0))) (.cells #[.bool true, .slice none 0 0] 38))
  go_wp2_with fail
  generalize (w2.alloc (.cells #[.int .i64 0, .int .i64 0, .slice none 0 0, .slice none 0 0] 31)).alloc (.cells #[.bool true, .slice none 0 0] 38) = w3 at *
  refine (S2 _ _).out.mono ?_
  rintro e w4 ⟨rfl, hb4⟩
  have g6 := old_of hb4 G6.out
  have HB4 := Lib.hid (below_alloc (HB3.out.trans (hb4.mono HB3.out.size)) (sigC 0 0 (.slice none 0 0) (.slice none 0 0)))
  have g6' := heap_later g6 (sigC 0 0 (.slice none 0 0) (.slice none 0 0))
  have c60 := sig_c0 g6'
  have c61 := sig_c1 g6'
  have c62 := sig_c2 g6'
  have c63 := sig_c3 g6'
  clear g6 g6' hb4
  go_wp2_with fail
  generalize w4.alloc (.cells #[.int .i64 0, .int .i64 0, .slice none 0 0, .slice none 0 0] 31) = w5 at *
  refine (same_any encN (fun x => ⟨_, rfl⟩) 0 0 [] [] _ _ _ _ (fun _ => True) (fun _ => True) (fun _ => True) (fun _ => True) _ (Row.nil _ _ _) (Row.nil _ _ _) (Row.nil _ _ _) (Row.nil _ _ _) (by decide) (by decide)).mono ?_
  rintro e w6 ⟨rfl, hb6⟩
  have HB6 := Lib.hid (HB4.out.trans (hb6.mono HB4.out.size)); clear hb6 c60 c61 c62 c63
  go_wp2_with fail
  refine (awake_any _).mono ?_
  rintro e w7 ⟨rfl, hb7⟩
  go_wp2
  go_ret
  exact ⟨rfl, HB6.out.trans (hb7.mono HB6.out.size)⟩

/-- Both signatures in their blocks. -/
structure Two2 (w : World) (p6 p8 : Nat) (b n : Int) (vw vs vw' vs' : Value) (ws : List Nat) (ms ms' : List Txt) : Prop where
  s6 : w.heap[p6]? = some (sigC b n vw vs)
  s8 : w.heap[p8]? = some (sigC b n vw' vs')
  r1 : Row encN (fun _ => True) w vw ws
  r2 : Row encT (fun _ => True) w vs ms
  r3 : Row encN (fun _ => True) w vw' ws
  r4 : Row encT (fun _ => True) w vs' ms'
theorem two2_start {w2 w4 : World} {b n : Nat} {vw vs vw' vs' : Value} {base1 : Nat} {ws : List Nat} {ms ms' : List Txt} (o1 : OwnL encN w2 base1 3 vw ws) (o2 : OwnL encT w2 base1 9 vs ms) {base2 : Nat}
    (o3 : OwnL encN w4 base2 3 vw' ws) (o4 : OwnL encT w4 base2 9 vs' ms')
    (hk : Kept (fun k => k = w2.heap.size + 1) ((w2.alloc (sigC b n vw vs)).alloc (.cells #[.bool true, .slice none 0 0] 38)) w4) :
    Two2 (w4.alloc (sigC b n vw' vs')) w2.heap.size w4.heap.size b n vw vs vw' vs' ws ms ms' := by
  have hkk : Kept (fun k => k = w2.heap.size + 1) w2 w4 := (((Kept.refl _ _).alloc _).alloc _).trans hk
  have h6 : w4.heap[w2.heap.size]? = some (sigC b n vw vs) := hk.old (heap_later (heap_alloc_new _ _) _) (by omega)
  have ka : Kept (fun _ => False) w4 (w4.alloc (sigC b n vw' vs')) := Kept.of_alloc _ _
  exact ⟨heap_later h6 _, heap_alloc_new _ _, OwnL.any (own_none (own_none o1 hkk (fun k hk => by omega)) ka (fun _ _ => id)), OwnL.any (own_none (own_none o2 hkk (fun k hk => by omega)) ka (fun _ _ => id)), OwnL.any (own_none o3 ka (fun _ _ => id)), OwnL.any (own_none o4 ka (fun _ _ => id))⟩

set_option maxRecDepth 100000 in
set_option maxHeartbeats 4000000 in
theorem signReals_good (s : Txt) (hs : s.length ≤ 140737488351232) (b : Nat) (hb : 16 ≤ b) (hb2 : b ≤ 1024) (w : World) :
    Calls Try.prog 5 #[.string ⟨s.toArray⟩, .int .i64 b] w fun e w' => e = .returned (.bool true) ∧ Below w.heap.size w w' := by
  have CT := fun w' => Lib.hid (cut_any s 200 w' (by decide) hs)
  have hl : (s.take 200).length ≤ 200 := List.length_take_le _ _
  generalize s.take 200 = l at *
  have hbl := cutS_le b (by omega) l
  have S1 := fun p kb w' h => Lib.hid (sign_ok (book_real p kb) b l w' () hb hb2 (by omega) h trivial)
  have S2 := fun q w' h => Lib.hid (refSign_ok (book_refReal q) b l w' () hb hb2 (by omega) h trivial)
  have HLEN := Lib.hid (show (cutS b l).length ≤ 3000 by omega)
  clear hbl
  go_enter Try.func5, Try.ntmps5
  go_wp2_with fail
  refine (CT _).out.mono ?_
  rintro e w' ⟨rfl, rfl⟩
  go_wp2_with fail
  refine (real_any _).mono ?_
  rintro e w1 ⟨p, kb, rfl, hid1, hp, hkb, hb1⟩
  have HB1 := Lib.hid hb1; clear hb1
  have HI1 := Lib.hid hid1; clear hid1
  go_wp2_with fail
  refine (S1 _ _ _ HI1.out).out.mono ?_
  rintro e w2 ⟨vw, vs, ms, _, rfl, o1, o2, mk1, _, kp2, _, _⟩
  have HB2 := Lib.hid (HB1.out.trans (kp2.below HB1.out.size (by rintro k (e | e) <;> omega))); clear kp2
  obtain ⟨a1, n1, k1, rfl⟩ := own_slice o1
  obtain ⟨a2, n2, k2, rfl⟩ := own_slice o2
  have HB3 := Lib.hid (below_alloc (below_alloc HB2.out (sigC b l.length (.slice a1 n1 k1) (.slice a2 n2 k2))) (.cells #[.bool true, .slice none 0 0] 38))
  have HR3 := Lib.hid (show RefRealAt ((w2.alloc (sigC b l.length (.slice a1 n1 k1) (.slice a2 n2 k2))).alloc (.cells #[.bool true, .slice none 0 0] 38)) (w2.heap.size + 1) from heap_alloc2_new _ _ _)
  have O1 := Lib.hid o1
  have O2 := Lib.hid o2
  have EM := Lib.hid (marked_real mk1)
  clear o1 o2 mk1
  have TS := Lib.hid (fun (w4 : World) (vw' vs' : Value) (ms' : List Txt) (base2 : Nat) (o3 : OwnL encN w4 base2 3 vw' ((cutS b l).map wk)) (o4 : OwnL encT w4 base2 9 vs' ms') (h : Kept (fun k => k = w2.heap.size + 1) ((w2.alloc (sigC b l.length (.slice a1 n1 k1) (.slice a2 n2 k2))).alloc (.cells #[.bool true, .slice none 0 0] 38)) w4) =>
    two2_start O1.out O2.out o3 o4 h)
  go_wp2_with fail
  generalize (w2.alloc (.cells #[.int .i64 b, .int .i64 l.length, .slice a1 n1 k1, .slice a2 n2 k2] 31)).alloc (.cells #[.bool true, .slice none 0 0] 38) = w3 at *
  refine (S2 _ _ HR3.out).out.mono ?_
  rintro e w4 ⟨vw', vs', ms', s', rfl, o3, o4, mk2, _, kp4, _, _⟩
  obtain ⟨a3, n3, k3, rfl⟩ := own_slice o3
  obtain ⟨a4, n4, k4, rfl⟩ := own_slice o4
  have TW := Lib.hid (TS.out w4 _ _ _ _ o3 o4 kp4)
  have HB4 := Lib.hid (below_alloc (HB3.out.trans (kp4.below HB3.out.size (fun k e => by have e' : k = w2.heap.size + 1 := e; have := HB2.out.size; omega))) (sigC b l.length (.slice a3 n3 k3) (.slice a4 n4 k4)))
  have EM2 := marked_real mk2
  rw [← EM.out] at EM2
  subst EM2
  clear TS o3 o4 mk2 kp4 HR3 O1 O2 HB3
  have c60 := sig_c0 TW.out.s6
  have c61 := sig_c1 TW.out.s6
  have c62 := sig_c2 TW.out.s6
  have c63 := sig_c3 TW.out.s6
  go_wp2_with fail
  generalize w4.alloc (.cells #[.int .i64 b, .int .i64 l.length, .slice a3 n3 k3, .slice a4 n4 k4] 31) = w5 at *
  refine (same_any encN (fun x => ⟨_, rfl⟩) b l.length _ _ _ _ _ _ _ _ _ _ _ TW.out.r1 TW.out.r2 TW.out.r3 TW.out.r4 (by rw [List.length_map]; have := HLEN.out; omega) (by rw [EM.out, List.length_map]; have := HLEN.out; omega)).mono ?_
  rintro e w6 ⟨rfl, hb6⟩
  have HB6 := Lib.hid (HB4.out.trans (hb6.mono HB4.out.size)); clear hb6 c60 c61 c62 c63
  go_wp2_with fail
  refine (awake_any _).mono ?_
  rintro e w7 ⟨rfl, hb7⟩
  go_wp2
  go_ret
  exact ⟨rfl, HB6.out.trans (hb7.mono HB6.out.size)⟩

theorem signReals_walk (s : Txt) (hs : s.length ≤ 140737488351232) (z : Int) (h1 : -9223372036854775808 ≤ z) (h2 : z ≤ 9223372036854775807) (w : World) :
    Calls Try.prog 5 #[.string ⟨s.toArray⟩, .int .i64 z] w fun e w' => e = .returned (.bool true) ∧ Below w.heap.size w w' := by
  by_cases hz : z < 16 ∨ 1024 < z
  · exact signReals_bad s hs z hz w
  · obtain ⟨b, rfl⟩ : ∃ b : Nat, z = (b : Int) := ⟨z.toNat, by omega⟩
    exact signReals_good s hs b (by omega) (by omega) w
end Go.Proofs.Ytifbdbblfhphjaa
