/- Several texts in one: SignedW, OfDW, OfIW. -/
import Derived.Test.YtpkgjokehgihjaaGreatMarkMath
import Derived.Test.YtpkgjokehgihjaaGreatTabX
import Derived.Test.YtpkgjokehgihjaaGreatProg
import Derived.Test.YtpkgjokehgihjaaGreatRightW
import Derived.Test.YtpkgjokehgihjaaGreatRollMath
import Derived.Test.YtpkgjokehgihjaaGreatRows
import Derived.Test.YtpkgjokehgihjaaGreatShelf
import Derived.Test.YtpkgjokehgihjaaGreatSignAW
import Derived.Test.YtpkgjokehgihjaaGreatSignMath
import Derived.BigQuiet
import Derived.BigRegion
import Derived.ChangeAlike
import Derived.Deep.AppendLies
import Derived.Deep.CutBlock
import Derived.Deep.CutRange
import Derived.Deep.DeepCutAuto
import Derived.Deep.Draws
import Derived.Deep.QuietTactic
import Derived.Deep.RegionHeld3
import Derived.Deep.RegionLaw
import Derived.IntWalk
import Derived.Laws.Bits128
import Derived.Laws.BitsAllLaws
import Derived.Laws.IdiomStrings
import Derived.Laws.MakeOwn
import Derived.Laws.Rows
import Derived.Laws.Tables
import Derived.Lib.AppendStr
import Derived.Lib.Hide
import Derived.Maps.OwnSet
import Derived.Maps.Views
import Derived.OpenShut
import Derived.Outline
import Derived.ProofKit
import Derived.RegionTactic
import Derived.Shelf.Abstract
import Derived.ShutString
import Derived.SizedLaws
import Derived.SliceStrings
import Derived.Sort.Walk0
import Derived.StillTailTactics
import Derived.WalkKit
import Derived.WalkLawsBesides
import Derived.WalkSpells
import Derived.Test.YtpkgjokehgihjaaGreatBookW
import Derived.Test.YtpkgjokehgihjaaGreatBytesW
import Derived.Test.YtpkgjokehgihjaaGreatCmpW
import Derived.Test.YtpkgjokehgihjaaGreatDelX
import Derived.Test.YtpkgjokehgihjaaGreatFrame
import Derived.Test.YtpkgjokehgihjaaGreatGen
import Derived.Test.YtpkgjokehgihjaaGreatRollX
import Derived.Test.YtpkgjokehgihjaaGreatMakeDW
import Derived.Test.YtpkgjokehgihjaaGreatOwnL
import Derived.Test.YtpkgjokehgihjaaGreatCdX
import Derived.Test.YtpkgjokehgihjaaGreatRowKeep
import Derived.Test.YtpkgjokehgihjaaGreatSameW
import Derived.Test.YtpkgjokehgihjaaGreatSigAt
import Derived.Test.YtpkgjokehgihjaaGreatSignW
import Derived.Test.YtpkgjokehgihjaaGreatSortX
import Derived.Test.YtpkgjokehgihjaaGreatSortEW
import Derived.Test.YtpkgjokehgihjaaGreatSortFW
import Derived.Test.YtpkgjokehgihjaaGreatWkX
import Derived.Deep.LoopGhost
import Derived.Test.YtpkgjokehgihjaaGreatBooksW
import Derived.Test.YtpkgjokehgihjaaGreatGaX
import Derived.Test.YtpkgjokehgihjaaGreatNewTabW
import Derived.Test.YtpkgjokehgihjaaGreatSignBW
/- A text signed by an ideal book. -/
set_option linter.unusedVariables false
namespace Go.Proofs.YtpkgjokehgihjaaGreat
open Go.RowKit

theorem wk_below (l : Txt) : wk l < 4294967296 := by have := lo_lt l; have := hi_lt l; show lo l + 65536 * hi l < _; omega
theorem rightS_sign (b : Nat) (l : Txt) (ms : List Txt) (hb : 16 ≤ b) (hb2 : b ≤ 1024) (hl : l.length ≤ 524288) (hm : ms.length = (cutS b l).length) (h32 : ∀ m ∈ ms, m.length = 32) :
    rightS b l.length (((cutS b l).map wk).map (fun n : Nat => (n : Int))) ms = true := by
  unfold rightS
  have e : nBlk (l.length : Int).toNat (b : Int).toNat = (cutS b l).length := by rw [Int.toNat_natCast, Int.toNat_natCast, cutS_length b (by omega)]; rfl
  rw [(okB_iff b).2 (by omega), (okN_iff _).2 (by omega), e, List.length_map, List.length_map, hm, decide_eq_true rfl]
  simp only [Bool.true_and, Bool.and_eq_true, List.all_eq_true]
  refine ⟨fun n hn => ?_, fun m hm => by simpa [markOk] using h32 m hm⟩
  obtain ⟨k, hk, rfl⟩ := List.mem_map.1 hn
  obtain ⟨t, _, rfl⟩ := List.mem_map.1 hk
  have := wk_below t
  simp [sumOk]
  omega
theorem marks_len32 (S : List Txt) (ts : List Txt) : ∀ m ∈ ts.map (fun t => numM (noS S t)), m.length = 32 := by
  intro m hm
  obtain ⟨t, _, rfl⟩ := List.mem_map.1 hm
  exact numM_length _
/-- A text signed by an ideal book. -/
theorem signed_of {B : Nat} {l : Txt} {ms S : List Txt} (hb : 16 ≤ B) (hb2 : B ≤ 1024) (hl : l.length ≤ 3000) (mk : Marked nxI mkI [] (cutS B l) ms S) :
    Signed B l (cutS B l) S (((cutS B l).map wk).map (fun n : Nat => (n : Int))) ms (l.length / B) := by
  obtain ⟨e1, e2⟩ := marked_ideal mk
  exact ⟨hb, hb2, hl, rfl, e1, rfl, e2, rfl⟩
theorem Signed.right {B : Nat} {s : Txt} {L S : List Txt} {ws : List Int} {ms : List Txt} {N : Nat} (h : Signed B s L S ws ms N) : rightS B s.length ws ms = true := by
  rw [h.hws, h.hL]
  refine rightS_sign B s ms h.b1 h.b2 (by have := h.sl; omega) (by rw [h.lm, h.hL]) ?_
  rw [h.hms]
  exact marks_len32 S L
end Go.Proofs.YtpkgjokehgihjaaGreat
/- The walk of Of: the delta that makes a text of a basis, by any book. -/
set_option linter.unusedVariables false
namespace Go.Proofs.YtpkgjokehgihjaaGreat
open Go.RowKit

abbrev delV (bm mm : Txt) (n : Int) (v : Value) : Value := .agg #[.string ⟨bm.toArray⟩, .string ⟨mm.toArray⟩, .int .i64 n, v]
abbrev delC (bm mm : Txt) (n : Int) (v : Value) : Obj := .cells #[.string ⟨bm.toArray⟩, .string ⟨mm.toArray⟩, .int .i64 n, v] 34 (0, 0)
theorem del_info : (Tryz.prog.info? 34).map (·.size) = some 4 := by kernel_rfl
/-- A book that marks longer texts. -/
structure BookB (pb : Nat) {σ : Type} (At : World → σ → Prop) (F : σ → Nat → Prop) (nx : σ → Txt → σ → Prop) (mk : σ → Txt → Txt) (ok : Nat → σ → Prop) : Prop where
  mark : ∀ (w : World) (s : σ) (t : Txt) (n : Nat), At w s → ok (n + 1) s → t.length ≤ 4000 → Calls Tryz.prog 24 #[.pointer (some ⟨pb, 0, none⟩), .string ⟨t.toArray⟩] w fun e w' =>
    ∃ s', e = .returned (.string ⟨(mk s t).toArray⟩) ∧ nx s t s' ∧ ok n s' ∧ At w' s' ∧ Kept (F s) w w' ∧ ∀ k, F s' k → F s k ∨ w.heap.size ≤ k
theorem Kept.step {M N : Nat → Prop} {a b c : World} (h : Kept M a b) (k : Kept N b c) (hn : ∀ i, i < a.heap.size → N i → M i) : Kept M a c :=
  ⟨k.os.trans h.os, k.tape.trans h.tape, k.output.trans h.output, Nat.le_trans h.size k.size, fun i hi hm => (k.block i (Nat.lt_of_lt_of_le hi h.size) (fun e => hm (hn i hi e))).trans (h.block i hi hm)⟩
/-- What Of tells, and that the book's blocks alone turned. -/
def OfKPost {σ : Type} (At : World → σ → Prop) (F : σ → Nat → Prop) (nx : σ → Txt → σ → Prop) (mk : σ → Txt → Txt) (is : σ → Txt → Txt → Bool) (s0 : σ) (w : World) (B : Nat) (l s : Txt) (e : Ending) (w' : World) : Prop :=
  ∃ v ms s1 s2 s3, e = .returned (.tuple #[delV (mk s1 l) (mk s2 s) s.length v, .int .i64 0]) ∧ OwnS w' w.heap.size v (makeS (is s1) (((cutS B l).map wk).map (fun n : Nat => (n : Int))) ms B l.length s) ∧
    Marked nx mk s0 (cutS B l) ms s1 ∧ nx s1 l s2 ∧ nx s2 s s3 ∧ At w' s3 ∧ Kept (F s0) w w'
/-- What Of tells. -/
def OfDPost {σ : Type} (At : World → σ → Prop) (F : σ → Nat → Prop) (nx : σ → Txt → σ → Prop) (mk : σ → Txt → Txt) (is : σ → Txt → Txt → Bool) (s0 : σ) (w : World) (B : Nat) (l s : Txt) (e : Ending) (w' : World) : Prop :=
  ∃ v ms s1 s2 s3, e = .returned (.tuple #[delV (mk s1 l) (mk s2 s) s.length v, .int .i64 0]) ∧ OwnS w' w.heap.size v (makeS (is s1) (((cutS B l).map wk).map (fun n : Nat => (n : Int))) ms B l.length s) ∧
    Marked nx mk s0 (cutS B l) ms s1 ∧ nx s1 l s2 ∧ nx s2 s s3 ∧ At w' s3 ∧ Below w.heap.size w w'

theorem four_store {w : World} {p : Nat} {ty : TypeId} {x0 x1 x2 x3 : Value} (h : w.heap[p]? = some (.cells #[x0, x1, x2, x3] ty (0, 0))) (y0 y1 y2 y3 : Value) :
    (w.cell? ⟨p, 0, none⟩ = some x0 ∧ w.frozen? ⟨p, 0, none⟩ = false) ∧
    ((w.setCell ⟨p, 0, none⟩ y0).cell? ⟨p, 1, none⟩ = some x1 ∧ (w.setCell ⟨p, 0, none⟩ y0).frozen? ⟨p, 1, none⟩ = false) ∧
    (((w.setCell ⟨p, 0, none⟩ y0).setCell ⟨p, 1, none⟩ y1).cell? ⟨p, 2, none⟩ = some x2 ∧ ((w.setCell ⟨p, 0, none⟩ y0).setCell ⟨p, 1, none⟩ y1).frozen? ⟨p, 2, none⟩ = false) ∧
    ((((w.setCell ⟨p, 0, none⟩ y0).setCell ⟨p, 1, none⟩ y1).setCell ⟨p, 2, none⟩ y2).cell? ⟨p, 3, none⟩ = some x3 ∧ (((w.setCell ⟨p, 0, none⟩ y0).setCell ⟨p, 1, none⟩ y1).setCell ⟨p, 2, none⟩ y2).frozen? ⟨p, 3, none⟩ = false) ∧
    ((((w.setCell ⟨p, 0, none⟩ y0).setCell ⟨p, 1, none⟩ y1).setCell ⟨p, 2, none⟩ y2).setCell ⟨p, 3, none⟩ y3).heap[p]? = some (.cells #[y0, y1, y2, y3] ty (0, 0)) ∧
    Kept (fun k => k = p) w ((((w.setCell ⟨p, 0, none⟩ y0).setCell ⟨p, 1, none⟩ y1).setCell ⟨p, 2, none⟩ y2).setCell ⟨p, 3, none⟩ y3) := by
  have h1 := heap_setCell_same w p 0 _ _ y0 h
  have h2 := heap_setCell_same _ p 1 _ _ y1 h1
  have h3 := heap_setCell_same _ p 2 _ _ y2 h2
  have h4 := heap_setCell_same _ p 3 _ _ y3 h3
  refine ⟨⟨?_, frozen_of_row w p 0 _ _ h⟩, ⟨?_, frozen_of_row _ p 1 _ _ h1⟩, ⟨?_, frozen_of_row _ p 2 _ _ h2⟩, ⟨?_, frozen_of_row _ p 3 _ _ h3⟩, h4, ?_⟩
  · rw [cell_of_row _ _ _ _ _ _ h]; rfl
  · rw [cell_of_row _ _ _ _ _ _ h1]; rfl
  · rw [cell_of_row _ _ _ _ _ _ h2]; rfl
  · rw [cell_of_row _ _ _ _ _ _ h3]; rfl
  · exact ((((Kept.refl _ _).setCell (by rfl) _).setCell (by rfl) _).setCell (by rfl) _).setCell (by rfl) _
theorem own_ne {w : World} {base p : Nat} {v : Value} {l : List DSt} {cs : Array Value} {ty : TypeId} {fr : Nat × Nat} (ho : OwnS w base v l) (h : w.heap[p]? = some (.cells cs ty fr)) (hty : ty ≠ 42) : ¬ v.ownBlock = some p := by
  intro e
  obtain ⟨_, _, cur, hc⟩ := ho.lt e
  rw [hc] at h
  injection h with h
  injection h with _ h2 _
  exact hty h2.symm

set_option maxRecDepth 100000 in
set_option maxHeartbeats 4000000 in
theorem ofK_ok {pb n : Nat} {σ : Type} {At : World → σ → Prop} {F : σ → Nat → Prop} {nx : σ → Txt → σ → Prop} {mk : σ → Txt → Txt} {ok : Nat → σ → Prop} {is : σ → Txt → Txt → Bool}
    (I : BookI 24 (.pointer (some ⟨pb, 0, none⟩)) At F nx mk ok) (J : BookB pb At F nx mk ok) (K : ∀ s, ok 2 s → AskI n pb (fun w => At w s) (is s)) (hn1 : 100000 ≤ n) (hn2 : n ≤ 140737488351232) (hone : ∀ s, OneM (is s))
    (h32 : ∀ ts ms s0 s, Marked nx mk s0 ts ms s → ∀ m ∈ ms, m.length = 32) (hmark : ∀ s0 ts ms s k, Marked nx mk s0 ts ms s → ok (ts.length + k) s0 → ok k s)
    (B : Nat) (l s : Txt) (w : World) (s0 : σ) (hb : 16 ≤ B) (hb2 : B ≤ 1024) (hl : l.length ≤ 3000) (hs : s.length ≤ 3000) (hAt : At w s0) (hok : ok ((cutS B l).length + 2) s0) (hok0 : ok (cutS B l).length s0) :
    Calls Tryz.prog 12 #[.pointer (some ⟨pb, 0, none⟩), .string ⟨l.toArray⟩, .string ⟨s.toArray⟩, .int .i64 B] w (fun e w' => OfKPost At F nx mk is s0 w B l s e w') := by
  have HI := Lib.hid I
  have HJ := Lib.hid J
  have HK := Lib.hid K
  have SL := Lib.hid (show (⟨s.toArray⟩ : ByteArray).size = s.length from rfl)
  have hd0 : Below w.heap.size w (w.alloc (delC [] [] 0 (.slice none 0 0))) := below_self_alloc w _
  have HAt0 := Lib.hid (I.kept _ _ _ (fun _ => False) hAt (Kept.new hd0 _) (fun _ _ => id))
  have SG := Lib.hid (sign_ok I B l _ s0 hb hb2 (by omega) HAt0.out hok0)
  have HB0 := Lib.hid (Kept.new hd0 (F s0))
  have HG0 := Lib.hid (heap_alloc_new w (delC [] [] 0 (.slice none 0 0)))
  have HM := Lib.hid (fun ms s1 (mk1 : Marked nx mk s0 (cutS B l) ms s1) => hmark s0 _ _ _ 2 mk1 hok)
  have H32 := Lib.hid (fun ms s1 (mk1 : Marked nx mk s0 (cutS B l) ms s1) => h32 _ _ _ _ mk1)
  have MKOK := Lib.hid (fun At' is' A hone' ws ms vw vs N1 N2 w' h1 h2 hr hR hat => make_ok (n := n) (pb := pb) (At := At') (is := is') A hn1 hn2 hone' B l.length ws ms vw vs N1 N2 s w' h1 h2 hr hR hat (by omega))
  have HON := Lib.hid hone
  have HF0 := Lib.hid (fun k (h : F s0 k) => I.lt w s0 k hAt h)
  have q1 : ¬ (524288 : Int) < (s.length : Int) := by omega
  clear hd0 hok hok0 hAt I J K hmark h32 hone
  go_enter Tryz.func12, Tryz.ntmps12
  go_wp2_with fail
  generalize w.alloc (.cells #[.string { data := #[] }, .string { data := #[] }, .int .i64 0, .slice none 0 0] 34) = w1 at *
  refine SG.out.mono ?_
  rintro e w2 ⟨vw, vs, ms, s1, rfl, o1, o2, mk1, hat1, kp1, hf1, hoff1⟩
  have MK1 := Lib.hid mk1
  have R1 := row_int o1.row
  have R2 := o2.row
  have hml := mk1.length
  have hsz2 : w1.heap.size ≤ w2.heap.size := kp1.size
  have S1 := Lib.hid (show w.heap.size < w2.heap.size by have := (Array.getElem?_eq_some_iff.1 HG0.out).1; omega)
  have HF1 := Lib.hid (fun k (h : F s1 k) => HI.out.lt w2 s1 k hat1 h)
  have HF1n := Lib.hid (show ¬ F s1 w.heap.size from fun h => (hf1 _ h).elim (fun h => by have := HF0.out _ h; omega) (fun h => by have := (Array.getElem?_eq_some_iff.1 HG0.out).1; omega))
  have HF1b := Lib.hid (show ∀ k, k < w.heap.size → F s1 k → F s0 k from fun k hk h => (hf1 k h).elim id (fun h => absurd (Nat.le_trans HB0.out.size h) (by omega)))
  have HG2 := Lib.hid (kp1.old HG0.out (fun h => by have := HF0.out _ h; omega))
  have HB2 := Lib.hid (HB0.out.trans kp1)
  have hbb := below_self_alloc w2 (sigC B l.length vw vs)
  have HB3 := Lib.hid (HB2.out.trans (Kept.new hbb _))
  have HAT3 := Lib.hid (HI.out.kept _ _ _ (fun _ => False) hat1 (Kept.new hbb _) (fun _ _ => id))
  have HG3 := Lib.hid (old_of hbb HG2.out)
  have hr := rightS_sign B l ms hb hb2 (by omega) hml (H32.out ms s1 mk1)
  obtain ⟨B', M', hR⟩ := right_is hr
  have e1 : B = B' := Int.ofNat_inj.1 hR.b
  have e2 : l.length = M' := Int.ofNat_inj.1 hR.n
  subst e1; subst e2
  have MKD := Lib.hid (MKOK.out (fun w => At w s1) (is s1) (HK.out s1 (HM.out ms s1 mk1)) (HON.out s1) _ ms vw vs _ _ _ (R1.keep hbb) (R2.keep hbb) hr hR HAT3.out)
  have HOK1 := Lib.hid (HM.out ms s1 mk1)
  obtain ⟨ws, hws⟩ : ∃ ws, ws = ((cutS B l).map wk).map (fun n : Nat => (n : Int)) := ⟨_, rfl⟩
  rw [← hws] at MKD
  have HWS2 := Lib.hid hws
  obtain ⟨a1, m1, k1, rfl⟩ := own_slice o1
  obtain ⟨a2, m2, k2, rfl⟩ := own_slice o2
  have S2 := Lib.hid (show w2.heap.size + 1 = (w2.alloc (sigC B l.length (.slice a1 m1 k1) (.slice a2 m2 k2))).heap.size by simp)
  clear hws o1 o2 mk1 hat1 kp1 hf1 hoff1 R1 R2 hbb hr hR HM H32 MKOK HON HK SG HG0 HAt0 HG2 HB0 HF0 hml
  have q2 : ((0 : Int) != 0) = false := rfl
  go_wp2_with fail
  generalize w2.alloc (.cells #[.int .i64 B, .int .i64 l.length, .slice a1 m1 k1, .slice a2 m2 k2] 58) = w3 at *
  refine MKD.out.mono ?_
  rintro e w4 ⟨v, rfl, ho4, hb4⟩
  have HO4 := Lib.hid ho4
  have HB4 := Lib.hid (HB3.out.trans (Kept.new hb4 _))
  have HG4 := Lib.hid (old_of hb4 HG3.out)
  have HAT4 := Lib.hid (HI.out.kept _ _ _ (fun _ => False) HAT3.out (Kept.new hb4 _) (fun _ _ => id))
  have S4 := Lib.hid (show w2.heap.size < w4.heap.size by have := hb4.size; have := S2.out; omega)
  obtain ⟨a3, m3, k3, rfl⟩ := own_slice ho4
  have hb5 := below_self_alloc w4 (delC [] [] s.length (.slice a3 m3 k3))
  have HO5 := Lib.hid (HO4.out.new hb5)
  have HB5 := Lib.hid (HB4.out.trans (Kept.new hb5 _))
  have HG5 := Lib.hid (old_of hb5 HG4.out)
  have HAT5 := Lib.hid (HI.out.kept _ _ _ (fun _ => False) HAT4.out (Kept.new hb5 _) (fun _ _ => id))
  have HD5 := Lib.hid (heap_alloc_new w4 (delC [] [] s.length (.slice a3 m3 k3)))
  have S5 := Lib.hid (show (w4.alloc (delC [] [] s.length (.slice a3 m3 k3))).heap.size = w4.heap.size + 1 by simp)
  have MB := Lib.hid (HJ.out.mark _ s1 l 1 HAT5.out HOK1.out (by omega))
  have S3 := Lib.hid HB3.out.size
  clear ho4 hb4 hb5 HAT4 HAT3 HG4 HG3 HB4 HO4 MKD HB3
  go_wp2_with fail
  generalize w4.alloc (.cells #[.string { data := #[] }, .string { data := #[] }, .int .i64 s.length, .slice a3 m3 k3] 34) = w5 at *
  refine MB.out.mono ?_
  rintro e w6 ⟨s2, rfl, hnx2, hok2, hat2, hk2, hf2⟩
  have s1' := S1.out
  have s2' := S2.out
  have s3' := S3.out
  have s4' := S4.out
  have s5' := S5.out
  clear S1 S2 S3 S4 S5
  have hw34 : w3.heap.size ≤ w4.heap.size := by
    rcases Nat.lt_or_ge w4.heap.size w3.heap.size with c | c
    · omega
    · exact c
  generalize hg : w4.heap.size = g at *
  clear hg
  have ho5l := fun g' (hg' : (Value.slice a3 m3 k3).ownBlock = some g') => HO5.out.lt hg'
  have HD6 := Lib.hid (hk2.old HD5.out (fun h => by have := HF1.out _ h; omega))
  have HG6 := Lib.hid (hk2.old HG5.out HF1n.out)
  have HO6 := Lib.hid (HO5.out.kept hk2 (fun g' hg' h => by have := HF1.out _ h; have := (ho5l g' hg').1; omega))
  have HB6 := Lib.hid (HB5.out.step hk2 (fun k hk h => HF1b.out k hk h))
  have HF2g := Lib.hid (show ¬ F s2 g from fun h => (hf2 _ h).elim (fun h => by have := HF1.out _ h; omega) (fun h => by omega))
  have HF2r := Lib.hid (show ¬ F s2 w.heap.size from fun h => (hf2 _ h).elim HF1n.out (fun h => by omega))
  have HF2b := Lib.hid (show ∀ k, k < w.heap.size → F s2 k → F s0 k from fun k hk h => (hf2 _ h).elim (HF1b.out k hk) (fun h => absurd (Nat.le_trans HB5.out.size h) (by omega)))
  have HF2o := Lib.hid (show ∀ g', (Value.slice a3 m3 k3).ownBlock = some g' → ¬ F s2 g' from fun g' hg' h => (hf2 _ h).elim (fun h => by have := HF1.out _ h; have := (ho5l g' hg').1; omega) (fun h => by have := (ho5l g' hg').2.1; omega))
  have d0 : w6.cell? ⟨g, 0, none⟩ = some (.string ⟨#[]⟩) := by rw [cell_of_row _ _ _ _ _ _ HD6.out]; rfl
  have f0 : w6.frozen? ⟨g, 0, none⟩ = false := frozen_of_row _ _ _ _ _ HD6.out
  obtain ⟨m1', hm1'⟩ : ∃ m1', m1' = mk s1 l := ⟨_, rfl⟩
  rw [← hm1']
  have HM1 := Lib.hid hm1'; clear hm1'
  have HD7 := Lib.hid (show (w6.setCell ⟨g, 0, none⟩ (.string ⟨m1'.toArray⟩)).heap[g]? = some (delC m1' [] s.length (.slice a3 m3 k3)) from heap_setCell_same w6 g 0 _ _ _ HD6.out)
  have k7 : Kept (fun k => k = g) w6 (w6.setCell ⟨g, 0, none⟩ (.string ⟨m1'.toArray⟩)) := (Kept.refl _ _).setCell (by rfl) _
  have HG7 := Lib.hid (k7.old HG6.out (fun h => by omega))
  have HO7 := Lib.hid (HO6.out.kept k7 (fun g' hg' h => by have := (ho5l g' hg').2.1; have := (own_ne HO6.out HD6.out (by decide)); exact this (by rw [hg', h])))
  have HB7 := Lib.hid (HB6.out.step k7 (fun k hk h => by omega))
  have HAT7 := Lib.hid (HI.out.kept _ _ _ _ hat2 k7 (fun k hf e => HF2g.out (e ▸ hf)))
  have MB2 := Lib.hid (HJ.out.mark _ s2 s 0 HAT7.out hok2 (by omega))
  have HNX2 := Lib.hid hnx2
  have hsz7 : (w6.setCell ⟨g, 0, none⟩ (.string ⟨m1'.toArray⟩)).heap.size = w6.heap.size := by simp
  have hsz6 := hk2.size
  clear hnx2 hok2 hat2 hk2 hf2 ho5l HD5 HG5 HO5 HB5 HF1 HF1n HF1b MB k7 HD6 HG6 HO6 HB6 HAT5
  go_wp2_with fail
  generalize w6.setCell ⟨g, 0, none⟩ (.string ⟨m1'.toArray⟩) = w7 at *
  refine MB2.out.mono ?_
  rintro e w8 ⟨s3, rfl, hnx3, hok3, hat3, hk3, hf3⟩
  have HD8 := Lib.hid (hk3.old HD7.out HF2g.out)
  have HG8 := Lib.hid (hk3.old HG7.out HF2r.out)
  have HO8 := Lib.hid (HO7.out.kept hk3 (fun g' hg' h => HF2o.out g' hg' h))
  have HB8 := Lib.hid (HB7.out.step hk3 (fun k hk h => HF2b.out k hk h))
  have HF3g := Lib.hid (show ¬ F s3 g from fun h => (hf3 _ h).elim HF2g.out (fun h => by omega))
  have HF3r := Lib.hid (show ¬ F s3 w.heap.size from fun h => (hf3 _ h).elim HF2r.out (fun h => by omega))
  have e1 : w8.cell? ⟨g, 1, none⟩ = some (.string ⟨#[]⟩) := by rw [cell_of_row _ _ _ _ _ _ HD8.out]; rfl
  have f1 : w8.frozen? ⟨g, 1, none⟩ = false := frozen_of_row _ _ _ _ _ HD8.out
  obtain ⟨m2', hm2'⟩ : ∃ m2', m2' = mk s2 s := ⟨_, rfl⟩
  rw [← hm2']
  have HM2 := Lib.hid hm2'; clear hm2'
  have HD9 := Lib.hid (show (w8.setCell ⟨g, 1, none⟩ (.string ⟨m2'.toArray⟩)).heap[g]? = some (delC m1' m2' s.length (.slice a3 m3 k3)) from heap_setCell_same w8 g 1 _ _ _ HD8.out)
  have k9 : Kept (fun k => k = g) w8 (w8.setCell ⟨g, 1, none⟩ (.string ⟨m2'.toArray⟩)) := (Kept.refl _ _).setCell (by rfl) _
  have HG9 := Lib.hid (k9.old HG8.out (fun h => by omega))
  have HO9 := Lib.hid (HO8.out.kept k9 (fun g' hg' h => own_ne HO8.out HD8.out (by decide) (by rw [hg', h])))
  have HB9 := Lib.hid (HB8.out.step k9 (fun k hk h => by omega))
  have HAT9 := Lib.hid (HI.out.kept _ _ _ _ hat3 k9 (fun k hf e => HF3g.out (e ▸ hf)))
  have HNX3 := Lib.hid hnx3
  have c0 : (w8.setCell ⟨g, 1, none⟩ (.string ⟨m2'.toArray⟩)).cell? ⟨g, 0, none⟩ = some (.string ⟨m1'.toArray⟩) := by rw [cell_of_row _ _ _ _ _ _ HD9.out]; rfl
  have c1 : (w8.setCell ⟨g, 1, none⟩ (.string ⟨m2'.toArray⟩)).cell? ⟨g, 1, none⟩ = some (.string ⟨m2'.toArray⟩) := by rw [cell_of_row _ _ _ _ _ _ HD9.out]; rfl
  have c2 : (w8.setCell ⟨g, 1, none⟩ (.string ⟨m2'.toArray⟩)).cell? ⟨g, 2, none⟩ = some (.int .i64 s.length) := by rw [cell_of_row _ _ _ _ _ _ HD9.out]; rfl
  have c3 : (w8.setCell ⟨g, 1, none⟩ (.string ⟨m2'.toArray⟩)).cell? ⟨g, 3, none⟩ = some (.slice a3 m3 k3) := by rw [cell_of_row _ _ _ _ _ _ HD9.out]; rfl
  obtain ⟨s0', s1'', s2'', s3'', s4'', s5''⟩ := four_store HG9.out (.string ⟨m1'.toArray⟩) (.string ⟨m2'.toArray⟩) (.int .i64 s.length) (.slice a3 m3 k3)
  have S0 := s0'.1
  have S0f := s0'.2
  have S1 := s1''.1
  have S1f := s1''.2
  have S2 := s2''.1
  have S2f := s2''.2
  have S3 := s3''.1
  have S3f := s3''.2
  have S4 := Lib.hid s4''
  have S5 := Lib.hid s5''
  clear s0' s1'' s2'' s3'' s4'' s5'' hnx3 hok3 hat3 hk3 hf3 k9 HD7 HG7 HO7 HB7 HAT7 HD8 HG8 HO8 HB8 d0 f0 MB2
  go_wp2_with fail
  generalize w8.setCell ⟨g, 1, none⟩ (.string ⟨m2'.toArray⟩) = w9 at *
  refine bodyPost_ret (v := .tuple #[delV m1' m2' s.length (.slice a3 m3 k3), .int .i64 0]) (results_row_tmp Tryz.results12 _ _ w.heap.size _ _ _ _ rfl S4.out Tryz.underlying34 rfl del_info) rfl ?_
  have hk := S5.out
  refine ⟨_, ms, s1, s2, s3, by rw [HM1.out, HM2.out], ?_, MK1.out, HNX2.out, HNX3.out, ?_, ?_⟩
  · rw [← HWS2.out]
    exact (HO9.out.kept hk (fun g' hg' h => own_ne HO9.out HG9.out (by decide) (by rw [hg', h]))).mono (by omega)
  · exact HI.out.kept _ _ _ _ HAT9.out hk (fun k hf e => HF3r.out (e ▸ hf))
  · exact HB9.out.step hk (fun k hk e => by omega)
theorem ofD_ok {pb n : Nat} {σ : Type} {At : World → σ → Prop} {F : σ → Nat → Prop} {nx : σ → Txt → σ → Prop} {mk : σ → Txt → Txt} {ok : Nat → σ → Prop} {is : σ → Txt → Txt → Bool}
    (I : BookI 24 (.pointer (some ⟨pb, 0, none⟩)) At F nx mk ok) (J : BookB pb At F nx mk ok) (K : ∀ s, ok 2 s → AskI n pb (fun w => At w s) (is s)) (hn1 : 100000 ≤ n) (hn2 : n ≤ 140737488351232) (hone : ∀ s, OneM (is s))
    (h32 : ∀ ts ms s0 s, Marked nx mk s0 ts ms s → ∀ m ∈ ms, m.length = 32) (hmark : ∀ s0 ts ms s k, Marked nx mk s0 ts ms s → ok (ts.length + k) s0 → ok k s)
    (B : Nat) (l s : Txt) (w W : World) (s0 : σ) (hb : 16 ≤ B) (hb2 : B ≤ 1024) (hl : l.length ≤ 3000) (hs : s.length ≤ 3000) (hAt : At w s0) (hok : ok ((cutS B l).length + 2) s0) (hok0 : ok (cutS B l).length s0) (hW : Below W.heap.size W w) (hF : ∀ k, F s0 k → W.heap.size ≤ k) :
    Calls Tryz.prog 12 #[.pointer (some ⟨pb, 0, none⟩), .string ⟨l.toArray⟩, .string ⟨s.toArray⟩, .int .i64 B] w (fun e w' => OfDPost At F nx mk is s0 W B l s e w') := by
  refine (ofK_ok I J K hn1 hn2 hone h32 hmark B l s w s0 hb hb2 hl hs hAt hok hok0).mono ?_
  rintro e w' ⟨v, ms, s1, s2, s3, rfl, h1, h2, h3, h4, h5, hk⟩
  exact ⟨v, ms, s1, s2, s3, rfl, h1.mono hW.size, h2, h3, h4, h5, hW.trans (hk.below hW.size hF)⟩
end Go.Proofs.YtpkgjokehgihjaaGreat
/- Of by an ideal book: what its delta is; where it refuses. -/
set_option linter.unusedVariables false
namespace Go.Proofs.YtpkgjokehgihjaaGreat
open Go.RowKit

/-! ### Plain mathematics -/
def mtI (B : Nat) (l t : Txt) (wanted : Int) : Int := matchP (fun i => decide (t = (cutS B l).getD i [])) (l.length / B) B t wanted
def tlI (B : Nat) (l t : Txt) : Bool := decide (0 < l.length % B) && decide (t = l.drop (l.length - l.length % B))
/-- The steps for s by the signature of l, where marks tell texts apart. -/
def stepsI (B : Nat) (l s : Txt) : List DSt := stepsS (mtI B l) (tlI B l) l.length B s
theorem Signed.makeS_eq {B : Nat} {l : Txt} {L S : List Txt} {ws : List Int} {ms ms0 : List Txt} {N : Nat} (h : Signed B l L S ws ms0 N) (is : Txt → Txt → Bool) (his : ∀ t i (hi : i < L.length), is t (mOf ms i) = decide (t = L[i])) (s : Txt) : makeS is ws ms B l.length s = stepsI B l s := by
  have hN := h.hN
  have hL := h.hL
  have e1 : mtP is ws ms (l.length / B) B = mtI B l := by
    funext t wanted
    unfold mtP mtI
    refine matchP_congr (fun i hi => ?_) t wanted
    have hi2 : i < L.length := by have := h.small; omega
    unfold pOf
    rw [his t i hi2, h.w hi2, ← hL, List.getD_eq_getElem?_getD, List.getElem?_eq_getElem hi2, Option.getD_some]
    by_cases c : t = L[i]
    · rw [decide_eq_true c, ← c, decide_eq_true rfl]; rfl
    · rw [decide_eq_false c, Bool.and_false]
  have e2 : tlP is ws ms (l.length / B) B l.length = tlI B l := by
    funext t
    unfold tlP tlI tailZ
    have hlen := h.len
    have hb := h.b1
    have e1 := Nat.div_add_mod l.length B
    have hm := Nat.mod_lt l.length (show 0 < B by omega)
    rw [← h.hN] at e1 ⊢
    have hcm : B * N = N * B := Nat.mul_comm _ _
    by_cases h0 : l.length % B = 0
    · rw [if_pos h0] at hlen
      rw [h.lw, hlen, h0]; simp
    · rw [if_neg h0] at hlen
      have hi : N < L.length := by omega
      have hg := (h.get hi).1
      have hgd : L[N] = l.drop (l.length - l.length % B) := by
        rw [hg, show l.length - l.length % B = N * B by omega, List.take_of_length_le]
        rw [List.length_drop]; omega
      rw [his t N hi, ← hgd, h.lw, h.w hi]
      by_cases ht : t = L[N]
      · have h1 : t.length + N * B = l.length := by
          rw [ht, hgd, List.length_drop]; omega
        have a1 : decide (N ≠ L.length) = true := decide_eq_true (by omega)
        have a2 : decide (0 < l.length % B) = true := decide_eq_true (by omega)
        rw [a1, a2, decide_eq_true h1, decide_eq_true ht, ht]
        simp
      · rw [decide_eq_false ht]; simp
  unfold makeS stepsI
  rw [e1, e2]
theorem stepsI_back {B : Nat} (hb : 16 ≤ B) (l s : Txt) (hl : l.length ≤ 524288) : BackS l s (stepsI B l s) := by
  have hle : ∀ i, i < l.length / B → i < (cutS B l).length ∧ i * B + B ≤ l.length := by
    intro i hi
    have h1 : (i + 1) * B ≤ l.length := Nat.le_trans (Nat.mul_le_mul_right B hi) (Nat.div_mul_le_self _ _)
    rw [Nat.succ_mul] at h1
    refine ⟨?_, h1⟩
    rw [cutS_length B (by omega)]
    exact Nat.lt_of_lt_of_le hi (Nat.div_le_div_right (by omega))
  refine steps_back (by omega) hl (fun a wanted ha hn => ?_) (fun _ hT => ?_)
  · obtain ⟨i, h1, h2, h3, _⟩ := matchP_spec (P := fun i => decide (win s B a = (cutS B l).getD i [])) (N := l.length / B) (B := B) (t := win s B a) (wanted := wanted) hn
    obtain ⟨h4, h5⟩ := hle i h2
    refine ⟨i, h1, h5, ?_⟩
    have h6 := of_decide_eq_true h3
    rw [List.getD_eq_getElem?_getD, List.getElem?_eq_getElem h4, Option.getD_some, (cutS_get B (by omega) l i h4).1] at h6
    exact h6
  · unfold tlI at hT
    rw [Bool.and_eq_true, decide_eq_true_eq, decide_eq_true_eq] at hT
    exact ⟨hT.1, rfl, hT.2⟩
theorem stepsI_same {B : Nat} (hb : 16 ≤ B) (s : Txt) : stepsI B s s = copyS s.length := by
  refine steps_same (by omega) (fun k hk => ?_) ?_
  · have h1 : k < s.length / B := by
      rw [Nat.lt_div_iff_mul_lt (by omega)]
      omega
    have h2 : k < (cutS B s).length := by
      rw [cutS_length B (by omega)]
      exact Nat.lt_of_lt_of_le h1 (Nat.div_le_div_right (by omega))
    refine matchP_wanted (win_length s B _ hk) h1 (decide_eq_true ?_)
    rw [List.getD_eq_getElem?_getD, List.getElem?_eq_getElem h2, Option.getD_some, (cutS_get B (by omega) s k h2).1]
    rw [win_seg]; unfold segS
    rw [List.drop_take]; congr 1; omega
  · unfold tlI; rw [decide_eq_true rfl, Bool.and_true]

theorem one_ideal (S : List Txt) : OneM (isS S) := by
  intro t m m' h1 h2
  unfold isS at h1 h2
  rw [Bool.and_eq_true, decide_eq_true_eq, decide_eq_true_eq] at h1 h2
  rw [← h1.2, ← h2.2]
theorem bookB_ideal (p bm : Nat) : BookB p (fun w S => IdealAt w p bm S) (FI p bm) nxI mkI okI := by
  refine ⟨fun w S t n hat hok ht => ?_⟩
  refine (mark_ideal w p bm S t hat (by omega) (by unfold okI at hok; omega)).mono ?_
  rintro e w' ⟨rfl, h1, h2⟩
  exact ⟨markS S t, rfl, rfl, by have := markS_length S t; unfold okI at *; omega, h1, h2.mono (fun k _ h => .inr h), fun k h => .inl h⟩

/-- What Of tells by an ideal book that has marked nothing yet. -/
def OfIPost (pb bm : Nat) (W : World) (B : Nat) (l s : Txt) (e : Ending) (w' : World) : Prop :=
  ∃ v S bmk mmk, e = .returned (.tuple #[delV bmk mmk s.length v, .int .i64 0]) ∧ OwnS w' W.heap.size v (stepsI B l s) ∧ IdealAt w' pb bm S ∧ Below W.heap.size W w' ∧ S.length ≤ 10000 ∧
    bmk.length = 32 ∧ mmk.length = 32 ∧ (∀ t, isS S t bmk = decide (t = l)) ∧ (∀ t, isS S t mmk = decide (t = s)) ∧ (l = s → bmk = mmk)
theorem isS_one {S : List Txt} {l : Txt} (hl : l ∈ S) (hS : S.length ≤ 10000) (t : Txt) : isS S t (numM (noS S l)) = decide (t = l) := by
  unfold isS
  by_cases ht : t = l
  · subst ht; rw [decide_eq_true hl]; simp
  · rw [decide_eq_false ht]
    by_cases hts : t ∈ S
    · have h1 := noS_le S t
      have h2 := noS_le S l
      rw [decide_eq_false (fun c => ht (noS_inj hts hl (numM_inj _ _ (by omega) (by omega) c))), Bool.and_false]
    · rw [decide_eq_false hts]; rfl
theorem isS_one_all {S L : List Txt} (hS : S.length ≤ 10000) (h : ∀ x ∈ L, x ∈ S) (t : Txt) (i : Nat) (hi : i < L.length) : isS S t (mOf (L.map fun t => numM (noS S t)) i) = decide (t = L[i]) := by
  have e : mOf (L.map fun t => numM (noS S t)) i = numM (noS S L[i]) := by unfold mOf; simp [List.getD_eq_getElem?_getD, hi]
  rw [e]
  exact isS_one (h _ (List.getElem_mem hi)) hS t
/-- What Of tells by an ideal book. -/
def OfJPost (pb bm : Nat) (S0 : List Txt) (w : World) (B : Nat) (l s : Txt) (e : Ending) (w' : World) : Prop :=
  ∃ v S, e = .returned (.tuple #[delV (numM (noS S l)) (numM (noS S s)) s.length v, .int .i64 0]) ∧ OwnS w' w.heap.size v (stepsI B l s) ∧ IdealAt w' pb bm S ∧ Kept (fun k => k = pb ∨ k = bm) w w' ∧
    S.length ≤ S0.length + l.length + 2 ∧ l ∈ S ∧ s ∈ S ∧ ∀ t ∈ S0, t ∈ S ∧ noS S t = noS S0 t
theorem ofJ_ok (pb bm B : Nat) (S0 : List Txt) (l s : Txt) (w : World) (hb : 16 ≤ B) (hb2 : B ≤ 1024) (hl : l.length ≤ 3000) (hs : s.length ≤ 3000) (hI : IdealAt w pb bm S0) (hS0 : S0.length + l.length + 2 ≤ 10000) :
    Calls Tryz.prog 12 #[.pointer (some ⟨pb, 0, none⟩), .string ⟨l.toArray⟩, .string ⟨s.toArray⟩, .int .i64 B] w (OfJPost pb bm S0 w B l s) := by
  have hcl := cutS_le B (by omega) l
  refine (ofK_ok (is := fun S => isS S) (n := 140737488351232) (book_ideal pb bm) (bookB_ideal pb bm) (fun S hS => ask_ideal pb bm S (by unfold okI at hS; omega)) (by decide) (Nat.le_refl _) (fun S => one_ideal S) ?_ ?_ B l s w S0 hb hb2 hl hs hI (by unfold okI; omega) (by unfold okI; omega)).mono ?_
  · intro ts ms s0 S hmk m hm'
    obtain ⟨_, e⟩ := marked_ideal hmk
    rw [e] at hm'
    exact marks_len32 S ts m hm'
  · intro s0 ts ms S k hmk hok
    obtain ⟨e, _⟩ := marked_ideal hmk
    have := foldl_markS_length ts s0
    unfold okI at *
    rw [e]; omega
  · rintro e w' ⟨v, ms, S1, S2, S3, rfl, ho, hmk, h2, h3, hat, hbel⟩
    have hsg : Signed B l (cutS B l) (seenS (cutS B l)) (((cutS B l).map wk).map (fun n : Nat => (n : Int))) ((cutS B l).map fun t => numM (noS (seenS (cutS B l)) t)) (l.length / B) := ⟨hb, hb2, hl, rfl, rfl, rfl, rfl, rfl⟩
    obtain ⟨e1, e2⟩ := marked_ideal hmk
    have hS1 := foldl_markS_length (cutS B l) S0
    rw [← e1] at hS1
    rw [hsg.makeS_eq (isS S1) (fun t i hi => by rw [e2]; exact isS_one_all (by omega) (fun x hx => by rw [e1]; exact (foldl_markS_mem _ _ _).2 (.inr hx)) t i hi)] at ho
    have h2' : S2 = markS S1 l := h2
    have h3' : S3 = markS S2 s := h3
    have hS2 := markS_length S1 l
    have hS3 := markS_length S2 s
    rw [← h2'] at hS2
    rw [← h3'] at hS3
    have hl2 : l ∈ S2 := by rw [h2', mem_markS]; exact .inr rfl
    have hl3 : l ∈ S3 := by rw [h3', mem_markS]; exact .inl hl2
    have hs3 : s ∈ S3 := by rw [h3', mem_markS]; exact .inr rfl
    have n1 : noS S3 l = noS S1 l := by
      rw [h3', noS_mark S2 s l (.inl hl2), h2', noS_mark S1 l l (.inr rfl)]
    have n2 : noS S3 s = noS S2 s := by rw [h3', noS_mark S2 s s (.inr rfl)]
    refine ⟨v, S3, ?_, ho, hat, hbel, by omega, hl3, hs3, fun t ht => ?_⟩
    · unfold mkI; rw [n1, n2]
    · have t1 : t ∈ S1 := by rw [e1]; exact (foldl_markS_mem _ _ _).2 (.inl ht)
      have t2 : t ∈ S2 := by rw [h2', mem_markS]; exact .inl t1
      refine ⟨by rw [h3', mem_markS]; exact .inl t2, ?_⟩
      rw [h3', noS_mark S2 s t (.inl t2), h2', noS_mark S1 l t (.inl t1), e1, noS_fold _ _ _ ht]
theorem ofI_ok (pb bm B : Nat) (l s : Txt) (w W : World) (hb : 16 ≤ B) (hb2 : B ≤ 1024) (hl : l.length ≤ 3000) (hs : s.length ≤ 3000) (hI : IdealAt w pb bm []) (hW : Below W.heap.size W w) (hp : W.heap.size ≤ pb) (hm : W.heap.size ≤ bm) :
    Calls Tryz.prog 12 #[.pointer (some ⟨pb, 0, none⟩), .string ⟨l.toArray⟩, .string ⟨s.toArray⟩, .int .i64 B] w (OfIPost pb bm W B l s) := by
  have hcl := cutS_le B (by omega) l
  refine (ofD_ok (is := fun S => isS S) (n := 140737488351232) (book_ideal pb bm) (bookB_ideal pb bm) (fun S hS => ask_ideal pb bm S (by unfold okI at hS; omega)) (by decide) (Nat.le_refl _) (fun S => one_ideal S) ?_ ?_ B l s w W [] hb hb2 hl hs hI (by unfold okI; simp; omega) (by unfold okI; simp; omega) hW ?_).mono ?_
  · intro ts ms s0 S hmk m hm'
    obtain ⟨_, e⟩ := marked_ideal hmk
    rw [e] at hm'
    exact marks_len32 S ts m hm'
  · intro s0 ts ms S k hmk hok
    obtain ⟨e, _⟩ := marked_ideal hmk
    have := foldl_markS_length ts s0
    unfold okI at *
    rw [e]; omega
  · rintro k (rfl | rfl)
    · exact hp
    · exact hm
  · rintro e w' ⟨v, ms, S1, S2, S3, rfl, ho, hmk, h2, h3, hat, hbel⟩
    have hsg := signed_of hb hb2 hl hmk
    rw [hsg.makeS_eq (isS S1) (fun t i hi => hsg.is t hi)] at ho
    obtain ⟨e1, _⟩ := marked_ideal hmk
    have hS1 := foldl_markS_length (cutS B l) []
    rw [← e1] at hS1
    simp at hS1
    have h2' : S2 = markS S1 l := h2
    have h3' : S3 = markS S2 s := h3
    have hS2 := markS_length S1 l
    have hS3 := markS_length S2 s
    rw [← h2'] at hS2
    rw [← h3'] at hS3
    have hl2 : l ∈ S2 := by rw [h2', mem_markS]; exact .inr rfl
    have hl3 : l ∈ S3 := by rw [h3', mem_markS]; exact .inl hl2
    have hs3 : s ∈ S3 := by rw [h3', mem_markS]; exact .inr rfl
    have n1 : noS S3 l = noS S1 l := by
      rw [h3', noS_mark S2 s l (.inl hl2), h2', noS_mark S1 l l (.inr rfl)]
    have n2 : noS S3 s = noS S2 s := by rw [h3', noS_mark S2 s s (.inr rfl)]
    refine ⟨v, S3, _, _, rfl, ho, hat, hbel, by omega, numM_length _, numM_length _, fun t => ?_, fun t => ?_, fun e => ?_⟩
    · unfold mkI; rw [← n1]; exact isS_one hl3 (by omega) t
    · unfold mkI; rw [← n2]; exact isS_one hs3 (by omega) t
    · subst e; unfold mkI; rw [← n1, ← n2]

set_option maxRecDepth 100000 in
set_option maxHeartbeats 1000000 in
theorem ofD_arg (bp : Value) (l s : Txt) (z : Int) (w : World) (h : z < 16 ∨ 1024 < z) (hs : s.length ≤ 3000) :
    Calls Tryz.prog 12 #[bp, .string ⟨l.toArray⟩, .string ⟨s.toArray⟩, .int .i64 z] w fun e w' => e = .returned (.tuple #[delV [] [] 0 (.slice none 0 0), .int .i64 1]) ∧ Below w.heap.size w w' := by
  have SL := Lib.hid (show (⟨s.toArray⟩ : ByteArray).size = s.length from rfl)
  have hd0 : Below w.heap.size w (w.alloc (delC [] [] 0 (.slice none 0 0))) := below_self_alloc w _
  have SG := Lib.hid (sign_arg bp l z (w.alloc (delC [] [] 0 (.slice none 0 0))) h)
  have HG0 := Lib.hid (heap_alloc_new w (delC [] [] 0 (.slice none 0 0)))
  have HB0 := Lib.hid hd0
  have q1 : ¬ (524288 : Int) < (s.length : Int) := by omega
  have q2 : ((1 : Int) != 0) = true := rfl
  clear hd0 h
  go_enter Tryz.func12, Tryz.ntmps12
  go_wp2_with fail
  generalize w.alloc (.cells #[.string { data := #[] }, .string { data := #[] }, .int .i64 0, .slice none 0 0] 34) = w1 at *
  refine SG.out.mono ?_
  rintro e w2 ⟨rfl, hb2⟩
  have hb3 := below_self_alloc w2 (sigC 0 0 (.slice none 0 0) (.slice none 0 0))
  have HG3 := Lib.hid (old_of hb3 (old_of hb2 HG0.out))
  have HB3 := Lib.hid ((HB0.out.trans (hb2.mono HB0.out.size)).trans (hb3.mono (Nat.le_trans HB0.out.size hb2.size)))
  obtain ⟨s0', s1'', s2'', s3'', s4'', s5''⟩ := four_store HG3.out (.string ⟨#[]⟩) (.string ⟨#[]⟩) (.int .i64 0) (.slice none 0 0)
  have S0 := s0'.1
  have S0f := s0'.2
  have S1 := s1''.1
  have S1f := s1''.2
  have S2 := s2''.1
  have S2f := s2''.2
  have S3 := s3''.1
  have S3f := s3''.2
  have S4 := Lib.hid s4''
  have S5 := Lib.hid s5''
  clear s0' s1'' s2'' s3'' s4'' s5'' hb2 hb3 SG
  go_wp2_with fail
  refine bodyPost_ret (v := .tuple #[delV [] [] 0 (.slice none 0 0), .int .i64 1]) (results_row_tmp Tryz.results12 _ _ w.heap.size _ _ _ _ rfl S4.out Tryz.underlying34 rfl del_info) rfl ⟨rfl, HB3.out.trans (S5.out.below HB3.out.size (fun k e => by omega))⟩

/-! ### The law's awake: chapter 6's first example -/
def d40 : Txt := [48, 49, 50, 51, 52, 53, 54, 55, 56, 57, 97, 98, 99, 100, 101, 102, 103, 104, 105, 106, 107, 108, 109, 110, 111, 112, 113, 114, 115, 116, 117, 118, 119, 120, 121, 122, 43, 45, 42, 47]
theorem d40_len : d40.length = 40 := by decide
end Go.Proofs.YtpkgjokehgihjaaGreat
