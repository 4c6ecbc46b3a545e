/- The walk of the law SignSigns. -/
import Derived.Test.YtifbdbblfhphjaaBookW
import Derived.Test.YtifbdbblfhphjaaBooks2W
import Derived.Test.YtifbdbblfhphjaaBooksW
import Derived.Test.YtifbdbblfhphjaaFrame
import Derived.Test.YtifbdbblfhphjaaGen
import Derived.Test.YtifbdbblfhphjaaInfos
import Derived.Test.YtifbdbblfhphjaaMarkMath
import Derived.Test.YtifbdbblfhphjaaOwnL
import Derived.Test.YtifbdbblfhphjaaRefBlocksW
import Derived.Test.YtifbdbblfhphjaaRefBookW
import Derived.Test.YtifbdbblfhphjaaRefSignW
import Derived.Test.YtifbdbblfhphjaaRightW
import Derived.Test.YtifbdbblfhphjaaRollMath
import Derived.Test.YtifbdbblfhphjaaRows
import Derived.Test.YtifbdbblfhphjaaSAwakeW
import Derived.Test.YtifbdbblfhphjaaSameW
import Derived.Test.YtifbdbblfhphjaaShelf
import Derived.Test.YtifbdbblfhphjaaSigAt
import Derived.Test.YtifbdbblfhphjaaSignAW
import Derived.Test.YtifbdbblfhphjaaSignBW
import Derived.Test.YtifbdbblfhphjaaSignMath
import Derived.Test.YtifbdbblfhphjaaSignW
import Derived.Test.YtifbdbblfhphjaaWeak2W
import Derived.BigQuiet
import Derived.Deep.CutBlock
import Derived.Deep.DeepCutAuto
import Derived.Deep.QuietTactic
import Derived.Deep.RegionHeld3
import Derived.IntWalk
import Derived.Laws.BitsAllLaws
import Derived.Laws.Rows
import Derived.Laws.Tables
import Derived.Lib.Hide
import Derived.Outline
import Derived.StillTailTactics
import Derived.WalkKit
import Derived.WalkLawsBesides
import Derived.WalkSpells
set_option linter.unusedVariables false
namespace Go.Proofs.Ytifbdbblfhphjaa
open Go.RowKit

theorem wk_below (l : Txt) : wk l < 4294967296 := by have := lo_lt l; have := hi_lt l; show lo l + 65536 * hi l < _; omega
theorem rightS_sign (b : Nat) (l : Txt) (ms : List Txt) (hb : 16 ≤ b) (hb2 : b ≤ 1024) (hl : l.length ≤ 524288) (hm : ms.length = (cutS b l).length) (h32 : ∀ m ∈ ms, m.length = 32) :
    rightS b l.length (((cutS b l).map wk).map (fun n : Nat => (n : Int))) ms = true := by
  unfold rightS
  have e : nBlk (l.length : Int).toNat (b : Int).toNat = (cutS b l).length := by rw [Int.toNat_natCast, Int.toNat_natCast, cutS_length b (by omega)]; rfl
  rw [(okB_iff b).2 (by omega), (okN_iff _).2 (by omega), e, List.length_map, List.length_map, hm, decide_eq_true rfl]
  simp only [Bool.true_and, Bool.and_eq_true, List.all_eq_true]
  refine ⟨fun n hn => ?_, fun m hm => by simpa [markOk] using h32 m hm⟩
  obtain ⟨k, hk, rfl⟩ := List.mem_map.1 hn
  obtain ⟨t, _, rfl⟩ := List.mem_map.1 hk
  have := wk_below t
  simp [sumOk]
  omega
/-- Both signatures in their blocks, and the book. -/
structure Two (w : World) (p6 p8 p bm : Nat) (b n : Int) (vw vs vw' vs' : Value) (ws : List Nat) (ms ms' S : List Txt) : Prop where
  s6 : w.heap[p6]? = some (sigC b n vw vs)
  s8 : w.heap[p8]? = some (sigC b n vw' vs')
  r1 : Row encN (fun _ => True) w vw ws
  r2 : Row encT (fun _ => True) w vs ms
  r3 : Row encN (fun _ => True) w vw' ws
  r4 : Row encT (fun _ => True) w vs' ms'
  id : IdealAt w p bm S
theorem Two.grow {w w' : World} {p6 p8 p bm : Nat} {b n : Int} {vw vs vw' vs' : Value} {ws : List Nat} {ms ms' S : List Txt} (h : Two w p6 p8 p bm b n vw vs vw' vs' ws ms ms' S) (hb : Below w.heap.size w w') : Two w' p6 p8 p bm b n vw vs vw' vs' ws ms ms' S :=
  ⟨old_of hb h.s6, old_of hb h.s8, h.r1.grow hb, h.r2.grow hb, h.r3.grow hb, h.r4.grow hb, h.id.new hb⟩
theorem refBook_new (w : World) : RefAt (w.alloc (.cells #[.bool false, .slice none 0 0] 38)) w.heap.size w.heap.size (.slice none 0 0) [] :=
  ⟨heap_alloc_new _ _, OwnL.nil _ _ _ _, Nat.le_refl _⟩

set_option maxRecDepth 100000 in
set_option maxHeartbeats 4000000 in
theorem signSigns_bad (s : Txt) (hs : s.length ≤ 140737488351232) (z : Int) (hz : z < 16 ∨ 1024 < z) (w : World) :
    Calls Try.prog 4 #[.string ⟨s.toArray⟩, .int .i64 z] w fun e w' => e = .returned (.bool true) ∧ Below w.heap.size w w' := by
  have CT := fun w' => Lib.hid (cut_any s 3000 w' (by decide) hs)
  generalize s.take 3000 = l at *
  have S1 := fun bp w' => Lib.hid (sign_arg bp l z w' hz)
  have S2 := fun bp w' => Lib.hid (refSign_arg bp l z w' hz)
  clear hz
  go_enter Try.func4, Try.ntmps4
  go_wp2_with fail
  refine (CT _).out.mono ?_
  rintro e w' ⟨rfl, rfl⟩
  go_wp2_with fail
  refine (ideal_any _).mono ?_
  rintro e w1 ⟨p, bm, rfl, hid1, hp, hbm, hb1⟩
  have HB1 := Lib.hid hb1; clear hid1 hb1
  go_wp2_with fail
  refine (S1 _ _).out.mono ?_
  rintro e w2 ⟨rfl, hb2⟩
  have HB2 := Lib.hid (HB1.out.trans (hb2.mono HB1.out.size)); clear hb2
  have G6 := Lib.hid (heap_later (heap_alloc_new w2 (sigC 0 0 (.slice none 0 0) (.slice none 0 0))) (.cells #[.bool false, .slice none 0 0] 38))
  have HB3 := Lib.hid (below_alloc (below_alloc HB2.out (sigC 0 0 (.slice none 0 0) (.slice none 0 0))) (.cells #[.bool false, .slice none 0 0] 38))
  go_wp2_with fail
  generalize (w2.alloc (.cells #[.int .i64 0, .int .i64 0, .slice none 0 0, .slice none 0 0] 31)).alloc (.cells #[.bool false, .slice none 0 0] 38) = w3 at *
  refine (S2 _ _).out.mono ?_
  rintro e w4 ⟨rfl, hb4⟩
  have g6 := old_of hb4 G6.out
  have HB4 := Lib.hid (below_alloc (HB3.out.trans (hb4.mono HB3.out.size)) (sigC 0 0 (.slice none 0 0) (.slice none 0 0)))
  have g6' := heap_later g6 (sigC 0 0 (.slice none 0 0) (.slice none 0 0))
  have g8' := heap_alloc_new w4 (sigC 0 0 (.slice none 0 0) (.slice none 0 0))
  have c60 := sig_c0 g6'
  have c61 := sig_c1 g6'
  have c62 := sig_c2 g6'
  have c63 := sig_c3 g6'
  have HG6 := Lib.hid g6'
  have HG8 := Lib.hid g8'
  clear g6 g6' g8' hb4
  go_wp2_with fail
  generalize w4.alloc (.cells #[.int .i64 0, .int .i64 0, .slice none 0 0, .slice none 0 0] 31) = w5 at *
  refine (ints_same [] _ _ (fun _ => True) (fun _ => True) _ (Row.nil _ _ _) (Row.nil _ _ _) (by decide)).mono ?_
  rintro e w6 ⟨rfl, hb6⟩
  have d63 := sig_c3 (old_of hb6 HG6.out)
  have d83 := sig_c3 (old_of hb6 HG8.out)
  have HB6 := Lib.hid (HB4.out.trans (hb6.mono HB4.out.size)); clear hb6 c60 c61 c62 c63
  go_wp2
  refine wp_loop_rounds 1 ?_
  unfold Code.rounds
  go_wp2_with fail
  refine (awake_any _).mono ?_
  rintro e w7 ⟨rfl, hb7⟩
  go_wp2
  go_ret
  exact ⟨rfl, below_alloc HB6.out _ |>.trans (hb7.mono (below_alloc HB6.out _).size)⟩

theorem marks_len32 (S : List Txt) (ts : List Txt) : ∀ m ∈ ts.map (fun t => numM (noS S t)), m.length = 32 := by
  intro m hm
  obtain ⟨t, _, rfl⟩ := List.mem_map.1 hm
  exact numM_length _
theorem isS_self {S : List Txt} {t : Txt} (h : t ∈ S) : isS S t (numM (noS S t)) = true := by unfold isS; rw [decide_eq_true h, decide_eq_true rfl]; rfl

/-- The program's signature by an ideal book, and the document's by one of its own, in one world. -/
theorem two_start {w2 w4 : World} {p bm b n : Nat} {vw vs vw' vs' : Value} {base1 : Nat} {ws : List Nat} {ms ms' S : List Txt} (o1 : OwnL encN w2 base1 3 vw ws) (o2 : OwnL encT w2 base1 9 vs ms) (hid : IdealAt w2 p bm S) {base2 : Nat}
    (o3 : OwnL encN w4 base2 3 vw' ws) (o4 : OwnL encT w4 base2 9 vs' ms')
    (hk : Kept (fun k => k = w2.heap.size + 1) ((w2.alloc (sigC b n vw vs)).alloc (.cells #[.bool false, .slice none 0 0] 38)) w4) :
    Two (w4.alloc (sigC b n vw' vs')) w2.heap.size w4.heap.size p bm b n vw vs vw' vs' ws ms ms' S := by
  have hkk : Kept (fun k => k = w2.heap.size + 1) w2 w4 := (((Kept.refl _ _).alloc _).alloc _).trans hk
  have h6 : w4.heap[w2.heap.size]? = some (sigC b n vw vs) := hk.old (heap_later (heap_alloc_new _ _) _) (by omega)
  have ka : Kept (fun _ => False) w4 (w4.alloc (sigC b n vw' vs')) := Kept.of_alloc _ _
  refine ⟨heap_later h6 _, heap_alloc_new _ _, OwnL.any (own_none (own_none o1 hkk (fun k hk => by omega)) ka (fun _ _ => id)), OwnL.any (own_none (own_none o2 hkk (fun k hk => by omega)) ka (fun _ _ => id)), OwnL.any (own_none o3 ka (fun _ _ => id)), OwnL.any (own_none o4 ka (fun _ _ => id)), ?_⟩
  exact (hid.kept hkk (by have := hid.lt.1; omega) (by have := hid.lt.2; omega)).kept ka id id

set_option maxRecDepth 100000 in
set_option maxHeartbeats 4000000 in
theorem signSigns_good (s : Txt) (hs : s.length ≤ 140737488351232) (b : Nat) (hb : 16 ≤ b) (hb2 : b ≤ 1024) (w : World) :
    Calls Try.prog 4 #[.string ⟨s.toArray⟩, .int .i64 b] w fun e w' => e = .returned (.bool true) ∧ Below w.heap.size w w' := by
  have CT := fun w' => Lib.hid (cut_any s 3000 w' (by decide) hs)
  have hl : (s.take 3000).length ≤ 3000 := List.length_take_le _ _
  generalize s.take 3000 = l at *
  have hbl := cutS_le b (by omega) l
  have S1 := fun p bm w' h => Lib.hid (sign_ok (book_ideal p bm) b l w' [] hb hb2 (by omega) h (by unfold okI; simp; omega))
  have S2 := fun q w' h => Lib.hid (refSign_ok (book_ref q q) b l w' (.slice none 0 0, []) hb hb2 (by omega) h (by unfold okR; simp; omega))
  have BL := fun w' => Lib.hid (refBlocks_any b l w' hb hb2 (by omega))
  have RS := Lib.hid (fun ms h1 h2 => rightS_sign b l ms hb hb2 (by omega) h1 h2)
  have HLEN := Lib.hid (show (cutS b l).length ≤ 3000 by omega)
  have HT := Lib.hid (fun t ht => (cutS_mem b (by omega) l t ht).1)
  clear hbl
  go_enter Try.func4, Try.ntmps4
  go_wp2_with fail
  refine (CT _).out.mono ?_
  rintro e w' ⟨rfl, rfl⟩
  go_wp2_with fail
  refine (ideal_any _).mono ?_
  rintro e w1 ⟨p, bm, rfl, hid1, hp, hbm, hb1⟩
  have HB1 := Lib.hid hb1; clear hb1
  have HI1 := Lib.hid hid1; clear hid1
  go_wp2_with fail
  refine (S1 _ _ _ HI1.out).out.mono ?_
  rintro e w2 ⟨vw, vs, ms, S, rfl, o1, o2, mk1, hid2, kp2, _, _⟩
  have HB2 := Lib.hid (HB1.out.trans (kp2.below HB1.out.size (by rintro k (e | e) <;> omega))); clear kp2
  obtain ⟨eS, eM⟩ := marked_ideal mk1
  obtain ⟨a1, n1, k1, rfl⟩ := own_slice o1
  obtain ⟨a2, n2, k2, rfl⟩ := own_slice o2
  have HB3 := Lib.hid (below_alloc (below_alloc HB2.out (sigC b l.length (.slice a1 n1 k1) (.slice a2 n2 k2))) (.cells #[.bool false, .slice none 0 0] 38))
  have HR3 := Lib.hid (show AtR (w2.heap.size + 1) (w2.heap.size + 1) ((w2.alloc (sigC b l.length (.slice a1 n1 k1) (.slice a2 n2 k2))).alloc (.cells #[.bool false, .slice none 0 0] 38)) (.slice none 0 0, []) from
    ⟨by have := refBook_new (w2.alloc (sigC b l.length (.slice a1 n1 k1) (.slice a2 n2 k2))); rw [World.size_alloc] at this; exact this, by simp⟩)
  have O1 := Lib.hid o1
  have O2 := Lib.hid o2
  have I2 := Lib.hid hid2
  have ES := Lib.hid eS
  have EM := Lib.hid eM
  clear o1 o2 hid2 eS eM mk1
  have KW := Lib.hid (fun (w4 : World) (h : Kept (FR (w2.heap.size + 1) ((.slice none 0 0 : Value), ([] : List Txt))) ((w2.alloc (sigC b l.length (.slice a1 n1 k1) (.slice a2 n2 k2))).alloc (.cells #[.bool false, .slice none 0 0] 38)) w4) => h.mono (N := fun k => k = w2.heap.size + 1) (by rintro k _ (e | e); exact e; simp [Value.ownBlock] at e))
  have TS := Lib.hid (fun (w4 : World) (vw' vs' : Value) (ms' : List Txt) (base2 : Nat) (o3 : OwnL encN w4 base2 3 vw' ((cutS b l).map wk)) (o4 : OwnL encT w4 base2 9 vs' ms') (h : Kept (FR (w2.heap.size + 1) ((.slice none 0 0 : Value), ([] : List Txt))) ((w2.alloc (sigC b l.length (.slice a1 n1 k1) (.slice a2 n2 k2))).alloc (.cells #[.bool false, .slice none 0 0] 38)) w4) =>
    two_start O1.out O2.out I2.out o3 o4 (KW.out w4 h))
  go_wp2_with fail
  generalize (w2.alloc (.cells #[.int .i64 b, .int .i64 l.length, .slice a1 n1 k1, .slice a2 n2 k2] 31)).alloc (.cells #[.bool false, .slice none 0 0] 38) = w3 at *
  refine (S2 _ _ HR3.out).out.mono ?_
  rintro e w4 ⟨vw', vs', ms', s', rfl, o3, o4, mk2, _, kp4, _, _⟩
  obtain ⟨a3, n3, k3, rfl⟩ := own_slice o3
  obtain ⟨a4, n4, k4, rfl⟩ := own_slice o4
  have TW := Lib.hid (TS.out w4 _ _ _ _ o3 o4 kp4)
  have HB4 := Lib.hid (below_alloc (HB3.out.trans ((KW.out w4 kp4).below HB3.out.size (fun k e => by have := HB2.out.size; omega))) (sigC b l.length (.slice a3 n3 k3) (.slice a4 n4 k4)))
  have EL := Lib.hid mk2.length
  clear TS KW o3 o4 mk2 kp4 HR3 O1 O2 I2 HB3
  have c60 := sig_c0 TW.out.s6
  have c61 := sig_c1 TW.out.s6
  have c62 := sig_c2 TW.out.s6
  have c63 := sig_c3 TW.out.s6
  go_wp2_with fail
  generalize w4.alloc (.cells #[.int .i64 b, .int .i64 l.length, .slice a3 n3 k3, .slice a4 n4 k4] 31) = w5 at *
  have IN := Lib.hid (ints_same _ _ _ _ _ w5 TW.out.r1 TW.out.r3 (by rw [List.length_map]; have := HLEN.out; omega))
  refine IN.out.mono ?_
  rintro e w6 ⟨rfl, hb6⟩
  have TX := Lib.hid (TW.out.grow hb6)
  have HB6 := Lib.hid (HB4.out.trans (hb6.mono HB4.out.size))
  clear hb6 c60 c61 c62 c63 IN TW HB4
  have d63 := sig_c3 TX.out.s6
  have d83 := sig_c3 TX.out.s8
  have N2 : n2 = (cutS b l).length := by
    obtain ⟨_, _, hv, _⟩ := TX.out.r2
    injection hv with _ hn _
    rw [hn, EM.out, List.length_map]
  have N4 : n4 = (cutS b l).length := by
    obtain ⟨_, _, hv, _⟩ := TX.out.r4
    injection hv with _ hn _
    rw [hn, EL.out]
  subst N2
  subst N4
  have q2 : (((cutS b l).length : Int) != ((cutS b l).length : Int)) = false := by simp
  have BE := Lib.hid (below_alloc HB6.out (.cells #[] 9))
  have TE := Lib.hid (TX.out.grow ((Below.refl _ _).alloc (Nat.le_refl _) (.cells #[] 9)))
  go_wp2_with fail
  generalize w6.alloc (.cells #[] 9) = w7 at *
  refine (BL _).out.mono ?_
  rintro e w8 ⟨vb, rfl, hvb, hb8⟩
  have T8 := Lib.hid (TE.out.grow hb8)
  have B8 := Lib.hid (BE.out.trans (hb8.mono BE.out.size))
  obtain ⟨va, vc, rfl, hvc⟩ := OwnL.any hvb
  have HVC := Lib.hid hvc
  clear hvb hb8 hvc TE BE TX HB6 d63 d83 BL
  go_wp2
  go_loopw [11] (fun v wr => ∃ k : Nat, k ≤ (cutS b l).length ∧ v = .int .i64 k ∧ Below w8.heap.size w8 wr) (fun v _ => (cutS b l).length - (intOf v).toNat)
  case atStart => exact ⟨0, by omega, rfl, Below.refl _ _⟩
  case round =>
    obtain ⟨k, hk, rfl, hbel⟩ := hrel
    have Hbel := Lib.hid hbel; clear hbel
    have TR := Lib.hid (T8.out.grow Hbel.out)
    have hk5 : k ≤ 3000 := by have := HLEN.out; omega
    by_cases hlt : k < (cutS b l).length
    · obtain ⟨gb, go, rfl, _, cb⟩ := HVC.out k hlt
      have cb' := (Hbel.out.cell (p := ⟨gb, go + k, none⟩) (World.block_lt_of_cell? w8 _ cb)).trans cb
      obtain ⟨_, _, hv, hcm⟩ := TR.out.r2
      injection hv with hva hvn hvc
      clear hvn hvc
      subst hva
      obtain ⟨gm, gmo, rfl, _, cm⟩ := hcm k (by rw [EM.out, List.length_map]; exact hlt)
      obtain ⟨t, ht⟩ : ∃ t, t = (cutS b l)[k] := ⟨_, rfl⟩
      have htm : t ∈ cutS b l := by rw [ht]; exact List.getElem_mem _
      have hm : ms[k]'(by rw [EM.out, List.length_map]; exact hlt) = numM (noS S t) := by
        simp only [EM.out, List.getElem_map, ht]
      rw [hm] at cm
      rw [← ht] at cb'
      have htS : t ∈ S := by rw [ES.out]; exact (foldl_markS_mem _ _ _).2 (.inr htm)
      have hSl : S.length ≤ 1000000 := by
        have := foldl_markS_length (cutS b l) []
        rw [← ES.out] at this
        simp at this
        have := HLEN.out
        omega
      have IS := Lib.hid (fun w' h => is_ideal w' p bm S t (numM (noS S t)) h (by have := HT.out t htm; omega) hSl)
      rw [isS_self htS] at IS
      generalize numM (noS S t) = mt at *
      unfold encT at cb' cm
      have TD := Lib.hid (TR.out.grow (Below_drew (Below.refl _ wr)))
      have BD := Lib.hid (Below_drew Hbel.out)
      have c63 := sig_c3 TR.out.s6
      have i0 : (0 : Int) ≤ (k : Int) := by omega
      have i1 : (k : Int) < ((cutS b l).length : Int) := by omega
      clear cb hm hcm ht htm htS hSl HVC
      go_wp2
      go_still_tail 10, (by kernel_rfl)
      change wpList _ _ _ _ _ wr.drew
      generalize wr.drew = wd at *
      go_wp2_with fail
      refine (IS.out _ TD.out.id).mono ?_
      rintro e w10 ⟨rfl, hb10⟩
      go_wp2
      go_roundw
      case rel => exact ⟨k + 1, by omega, by go_num, BD.out.trans (hb10.mono BD.out.size)⟩
      case measure => simp [intOf]; omega
    · have i1 : ¬ (k : Int) < ((cutS b l).length : Int) := by omega
      have RG := Lib.hid (sigRight_any b l.length _ _ _ _ _ _ wr (row_int TR.out.r1) TR.out.r2 (by rw [List.length_map, List.length_map]; have := HLEN.out; omega) (by rw [EM.out, List.length_map]; have := HLEN.out; omega))
      rw [RS.out ms (by rw [EM.out, List.length_map]) (by rw [EM.out]; exact marks_len32 S _)] at RG
      have c60 := sig_c0 TR.out.s6
      have c61 := sig_c1 TR.out.s6
      have c62 := sig_c2 TR.out.s6
      have c63 := sig_c3 TR.out.s6
      have B9 := Lib.hid (B8.out.trans (Hbel.out.mono B8.out.size))
      go_wp2_with fail
      refine RG.out.mono ?_
      rintro e w9 ⟨rfl, hb9⟩
      have B10 := Lib.hid (B9.out.trans (hb9.mono B9.out.size))
      go_wp2_with fail
      refine (awake_any _).mono ?_
      rintro e w11 ⟨rfl, hb11⟩
      go_wp2
      go_ret
      exact ⟨rfl, B10.out.trans (hb11.mono B10.out.size)⟩

theorem signSigns_walk (s : Txt) (hs : s.length ≤ 140737488351232) (z : Int) (h1 : -9223372036854775808 ≤ z) (h2 : z ≤ 9223372036854775807) (w : World) :
    Calls Try.prog 4 #[.string ⟨s.toArray⟩, .int .i64 z] w fun e w' => e = .returned (.bool true) ∧ Below w.heap.size w w' := by
  by_cases hz : z < 16 ∨ 1024 < z
  · exact signSigns_bad s hs z hz w
  · obtain ⟨b, rfl⟩ : ∃ b : Nat, z = (b : Int) := ⟨z.toNat, by omega⟩
    exact signSigns_good s hs b (by omega) (by omega) w
end Go.Proofs.Ytifbdbblfhphjaa
