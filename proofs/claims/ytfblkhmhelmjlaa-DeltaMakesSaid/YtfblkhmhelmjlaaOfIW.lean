/- Of by an ideal book: what its delta is; where it refuses. -/
import Derived.Test.YtfblkhmhelmjlaaTabX
import Derived.Test.YtfblkhmhelmjlaaBookW
import Derived.Test.YtfblkhmhelmjlaaBooksW
import Derived.Test.YtfblkhmhelmjlaaDelX
import Derived.Test.YtfblkhmhelmjlaaFrame
import Derived.Test.YtfblkhmhelmjlaaGatherW
import Derived.Test.YtfblkhmhelmjlaaGen
import Derived.Test.YtfblkhmhelmjlaaMakeDW
import Derived.Test.YtfblkhmhelmjlaaMarkMath
import Derived.Test.YtfblkhmhelmjlaaMatP
import Derived.Test.YtfblkhmhelmjlaaRollX
import Derived.Test.YtfblkhmhelmjlaaNewTabW
import Derived.Test.YtfblkhmhelmjlaaOfDW
import Derived.Test.YtfblkhmhelmjlaaOwnL
import Derived.Test.YtfblkhmhelmjlaaProg
import Derived.Test.YtfblkhmhelmjlaaReadW
import Derived.Test.YtfblkhmhelmjlaaRollMath
import Derived.Test.YtfblkhmhelmjlaaRowKeep
import Derived.Test.YtfblkhmhelmjlaaRows
import Derived.Test.YtfblkhmhelmjlaaSameW
import Derived.Test.YtfblkhmhelmjlaaShelf
import Derived.Test.YtfblkhmhelmjlaaSigAt
import Derived.Test.YtfblkhmhelmjlaaSignAW
import Derived.Test.YtfblkhmhelmjlaaSignBW
import Derived.Test.YtfblkhmhelmjlaaSignMath
import Derived.Test.YtfblkhmhelmjlaaSignW
import Derived.Test.YtfblkhmhelmjlaaSignedW
import Derived.Test.YtfblkhmhelmjlaaSortX
import Derived.Test.YtfblkhmhelmjlaaSortEW
import Derived.Test.YtfblkhmhelmjlaaSortFW
import Derived.BigQuiet
import Derived.Deep.LoopGhost
import Derived.Deep.QuietTactic
import Derived.Deep.RegionHeld3
import Derived.Deep.RegionLaw
import Derived.IntWalk
import Derived.Laws.BitsAllLaws
import Derived.Laws.MakeOwn
import Derived.Laws.Rows
import Derived.Laws.Tables
import Derived.Lib.Hide
import Derived.Outline
import Derived.Sort.Walk0
import Derived.StillTailTactics
import Derived.WalkKit
import Derived.WalkLawsBesides
import Derived.WalkSpells
set_option linter.unusedVariables false
namespace Go.Proofs.Ytfblkhmhelmjlaa
open Go.RowKit

/-! ### Plain mathematics -/
def mtI (B : Nat) (l t : Txt) (wanted : Int) : Int := matchP (fun i => decide (t = (cutS B l).getD i [])) (l.length / B) B t wanted
def tlI (B : Nat) (l t : Txt) : Bool := decide (0 < l.length % B) && decide (t = l.drop (l.length - l.length % B))
/-- The steps for s by the signature of l, where marks tell texts apart. -/
def stepsI (B : Nat) (l s : Txt) : List DSt := stepsS (mtI B l) (tlI B l) l.length B s
theorem Signed.makeS_eq {B : Nat} {l : Txt} {L S : List Txt} {ws : List Int} {ms : List Txt} {N : Nat} (h : Signed B l L S ws ms N) (is : Txt → Txt → Bool) (his : ∀ t i (hi : i < L.length), is t (mOf ms i) = decide (t = L[i])) (s : Txt) : makeS is ws ms B l.length s = stepsI B l s := by
  have hN := h.hN
  have hL := h.hL
  have e1 : mtP is ws ms (l.length / B) B = mtI B l := by
    funext t wanted
    unfold mtP mtI
    refine matchP_congr (fun i hi => ?_) t wanted
    have hi2 : i < L.length := by have := h.small; omega
    unfold pOf
    rw [his t i hi2, h.w hi2, ← hL, List.getD_eq_getElem?_getD, List.getElem?_eq_getElem hi2, Option.getD_some]
    by_cases c : t = L[i]
    · rw [decide_eq_true c, ← c, decide_eq_true rfl]; rfl
    · rw [decide_eq_false c, Bool.and_false]
  have e2 : tlP is ws ms (l.length / B) B l.length = tlI B l := by
    funext t
    unfold tlP tlI tailZ
    have hlen := h.len
    have hb := h.b1
    have e1 := Nat.div_add_mod l.length B
    have hm := Nat.mod_lt l.length (show 0 < B by omega)
    rw [← h.hN] at e1 ⊢
    have hcm : B * N = N * B := Nat.mul_comm _ _
    by_cases h0 : l.length % B = 0
    · rw [if_pos h0] at hlen
      rw [h.lw, hlen, h0]; simp
    · rw [if_neg h0] at hlen
      have hi : N < L.length := by omega
      have hg := (h.get hi).1
      have hgd : L[N] = l.drop (l.length - l.length % B) := by
        rw [hg, show l.length - l.length % B = N * B by omega, List.take_of_length_le]
        rw [List.length_drop]; omega
      rw [his t N hi, ← hgd, h.lw, h.w hi]
      by_cases ht : t = L[N]
      · have h1 : t.length + N * B = l.length := by
          rw [ht, hgd, List.length_drop]; omega
        have a1 : decide (N ≠ L.length) = true := decide_eq_true (by omega)
        have a2 : decide (0 < l.length % B) = true := decide_eq_true (by omega)
        rw [a1, a2, decide_eq_true h1, decide_eq_true ht, ht]
        simp
      · rw [decide_eq_false ht]; simp
  unfold makeS stepsI
  rw [e1, e2]
theorem stepsI_back {B : Nat} (hb : 16 ≤ B) (l s : Txt) (hl : l.length ≤ 524288) : BackS l s (stepsI B l s) := by
  have hle : ∀ i, i < l.length / B → i < (cutS B l).length ∧ i * B + B ≤ l.length := by
    intro i hi
    have h1 : (i + 1) * B ≤ l.length := Nat.le_trans (Nat.mul_le_mul_right B hi) (Nat.div_mul_le_self _ _)
    rw [Nat.succ_mul] at h1
    refine ⟨?_, h1⟩
    rw [cutS_length B (by omega)]
    exact Nat.lt_of_lt_of_le hi (Nat.div_le_div_right (by omega))
  refine steps_back (by omega) hl (fun a wanted ha hn => ?_) (fun _ hT => ?_)
  · obtain ⟨i, h1, h2, h3, _⟩ := matchP_spec (P := fun i => decide (win s B a = (cutS B l).getD i [])) (N := l.length / B) (B := B) (t := win s B a) (wanted := wanted) hn
    obtain ⟨h4, h5⟩ := hle i h2
    refine ⟨i, h1, h5, ?_⟩
    have h6 := of_decide_eq_true h3
    rw [List.getD_eq_getElem?_getD, List.getElem?_eq_getElem h4, Option.getD_some, (cutS_get B (by omega) l i h4).1] at h6
    exact h6
  · unfold tlI at hT
    rw [Bool.and_eq_true, decide_eq_true_eq, decide_eq_true_eq] at hT
    exact ⟨hT.1, rfl, hT.2⟩
theorem stepsI_same {B : Nat} (hb : 16 ≤ B) (s : Txt) : stepsI B s s = copyS s.length := by
  refine steps_same (by omega) (fun k hk => ?_) ?_
  · have h1 : k < s.length / B := by
      rw [Nat.lt_div_iff_mul_lt (by omega)]
      omega
    have h2 : k < (cutS B s).length := by
      rw [cutS_length B (by omega)]
      exact Nat.lt_of_lt_of_le h1 (Nat.div_le_div_right (by omega))
    refine matchP_wanted (win_length s B _ hk) h1 (decide_eq_true ?_)
    rw [List.getD_eq_getElem?_getD, List.getElem?_eq_getElem h2, Option.getD_some, (cutS_get B (by omega) s k h2).1]
    rw [win_seg]; unfold segS
    rw [List.drop_take]; congr 1; omega
  · unfold tlI; rw [decide_eq_true rfl, Bool.and_true]

theorem one_ideal (S : List Txt) : OneM (isS S) := by
  intro t m m' h1 h2
  unfold isS at h1 h2
  rw [Bool.and_eq_true, decide_eq_true_eq, decide_eq_true_eq] at h1 h2
  rw [← h1.2, ← h2.2]
theorem bookB_ideal (p bm : Nat) : BookB p (fun w S => IdealAt w p bm S) (FI p bm) nxI mkI okI := by
  refine ⟨fun w S t n hat hok ht => ?_⟩
  refine (mark_ideal w p bm S t hat (by omega) (by unfold okI at hok; omega)).mono ?_
  rintro e w' ⟨rfl, h1, h2⟩
  exact ⟨markS S t, rfl, rfl, by have := markS_length S t; unfold okI at *; omega, h1, h2.mono (fun k _ h => .inr h), fun k h => .inl h⟩

/-- What Of tells by an ideal book that has marked nothing yet. -/
def OfIPost (pb bm : Nat) (W : World) (B : Nat) (l s : Txt) (e : Ending) (w' : World) : Prop :=
  ∃ v S bmk mmk, e = .returned (.tuple #[delV bmk mmk s.length v, .int .i64 0]) ∧ OwnS w' W.heap.size v (stepsI B l s) ∧ IdealAt w' pb bm S ∧ Below W.heap.size W w' ∧ S.length ≤ 10000 ∧
    bmk.length = 32 ∧ mmk.length = 32 ∧ (∀ t, isS S t bmk = decide (t = l)) ∧ (∀ t, isS S t mmk = decide (t = s)) ∧ (l = s → bmk = mmk)
theorem isS_one {S : List Txt} {l : Txt} (hl : l ∈ S) (hS : S.length ≤ 10000) (t : Txt) : isS S t (numM (noS S l)) = decide (t = l) := by
  unfold isS
  by_cases ht : t = l
  · subst ht; rw [decide_eq_true hl]; simp
  · rw [decide_eq_false ht]
    by_cases hts : t ∈ S
    · have h1 := noS_le S t
      have h2 := noS_le S l
      rw [decide_eq_false (fun c => ht (noS_inj hts hl (numM_inj _ _ (by omega) (by omega) c))), Bool.and_false]
    · rw [decide_eq_false hts]; rfl
theorem ofI_ok (pb bm B : Nat) (l s : Txt) (w W : World) (hb : 16 ≤ B) (hb2 : B ≤ 1024) (hl : l.length ≤ 3000) (hs : s.length ≤ 3000) (hI : IdealAt w pb bm []) (hW : Below W.heap.size W w) (hp : W.heap.size ≤ pb) (hm : W.heap.size ≤ bm) :
    Calls Try.prog 12 #[.pointer (some ⟨pb, 0, none⟩), .string ⟨l.toArray⟩, .string ⟨s.toArray⟩, .int .i64 B] w (OfIPost pb bm W B l s) := by
  have hcl := cutS_le B (by omega) l
  refine (ofD_ok (is := fun S => isS S) (n := 140737488351232) (book_ideal pb bm) (bookB_ideal pb bm) (fun S hS => ask_ideal pb bm S (by unfold okI at hS; omega)) (by decide) (Nat.le_refl _) (fun S => one_ideal S) ?_ ?_ B l s w W [] hb hb2 hl hs hI (by unfold okI; simp; omega) (by unfold okI; simp; omega) hW ?_).mono ?_
  · intro ts ms s0 S hmk m hm'
    obtain ⟨_, e⟩ := marked_ideal hmk
    rw [e] at hm'
    exact marks_len32 S ts m hm'
  · intro s0 ts ms S k hmk hok
    obtain ⟨e, _⟩ := marked_ideal hmk
    have := foldl_markS_length ts s0
    unfold okI at *
    rw [e]; omega
  · rintro k (rfl | rfl)
    · exact hp
    · exact hm
  · rintro e w' ⟨v, ms, S1, S2, S3, rfl, ho, hmk, h2, h3, hat, hbel⟩
    have hsg := signed_of hb hb2 hl hmk
    rw [hsg.makeS_eq (isS S1) (fun t i hi => hsg.is t hi)] at ho
    obtain ⟨e1, _⟩ := marked_ideal hmk
    have hS1 := foldl_markS_length (cutS B l) []
    rw [← e1] at hS1
    simp at hS1
    have h2' : S2 = markS S1 l := h2
    have h3' : S3 = markS S2 s := h3
    have hS2 := markS_length S1 l
    have hS3 := markS_length S2 s
    rw [← h2'] at hS2
    rw [← h3'] at hS3
    have hl2 : l ∈ S2 := by rw [h2', mem_markS]; exact .inr rfl
    have hl3 : l ∈ S3 := by rw [h3', mem_markS]; exact .inl hl2
    have hs3 : s ∈ S3 := by rw [h3', mem_markS]; exact .inr rfl
    have n1 : noS S3 l = noS S1 l := by
      rw [h3', noS_mark S2 s l (.inl hl2), h2', noS_mark S1 l l (.inr rfl)]
    have n2 : noS S3 s = noS S2 s := by rw [h3', noS_mark S2 s s (.inr rfl)]
    refine ⟨v, S3, _, _, rfl, ho, hat, hbel, by omega, numM_length _, numM_length _, fun t => ?_, fun t => ?_, fun e => ?_⟩
    · unfold mkI; rw [← n1]; exact isS_one hl3 (by omega) t
    · unfold mkI; rw [← n2]; exact isS_one hs3 (by omega) t
    · subst e; unfold mkI; rw [← n1, ← n2]

set_option maxRecDepth 100000 in
set_option maxHeartbeats 1000000 in
theorem ofD_arg (bp : Value) (l s : Txt) (z : Int) (w : World) (h : z < 16 ∨ 1024 < z) (hs : s.length ≤ 3000) :
    Calls Try.prog 12 #[bp, .string ⟨l.toArray⟩, .string ⟨s.toArray⟩, .int .i64 z] w fun e w' => e = .returned (.tuple #[delV [] [] 0 (.slice none 0 0), .int .i64 1]) ∧ Below w.heap.size w w' := by
  have SL := Lib.hid (show (⟨s.toArray⟩ : ByteArray).size = s.length from rfl)
  have hd0 : Below w.heap.size w (w.alloc (delC [] [] 0 (.slice none 0 0))) := below_self_alloc w _
  have SG := Lib.hid (sign_arg bp l z (w.alloc (delC [] [] 0 (.slice none 0 0))) h)
  have HG0 := Lib.hid (heap_alloc_new w (delC [] [] 0 (.slice none 0 0)))
  have HB0 := Lib.hid hd0
  have q1 : ¬ (524288 : Int) < (s.length : Int) := by omega
  have q2 : ((1 : Int) != 0) = true := rfl
  clear hd0 h
  go_enter Try.func12, Try.ntmps12
  go_wp2_with fail
  generalize w.alloc (.cells #[.string { data := #[] }, .string { data := #[] }, .int .i64 0, .slice none 0 0] 27) = w1 at *
  refine SG.out.mono ?_
  rintro e w2 ⟨rfl, hb2⟩
  have hb3 := below_self_alloc w2 (sigC 0 0 (.slice none 0 0) (.slice none 0 0))
  have HG3 := Lib.hid (old_of hb3 (old_of hb2 HG0.out))
  have HB3 := Lib.hid ((HB0.out.trans (hb2.mono HB0.out.size)).trans (hb3.mono (Nat.le_trans HB0.out.size hb2.size)))
  obtain ⟨s0', s1'', s2'', s3'', s4'', s5''⟩ := four_store HG3.out (.string ⟨#[]⟩) (.string ⟨#[]⟩) (.int .i64 0) (.slice none 0 0)
  have S0 := s0'.1
  have S0f := s0'.2
  have S1 := s1''.1
  have S1f := s1''.2
  have S2 := s2''.1
  have S2f := s2''.2
  have S3 := s3''.1
  have S3f := s3''.2
  have S4 := Lib.hid s4''
  have S5 := Lib.hid s5''
  clear s0' s1'' s2'' s3'' s4'' s5'' hb2 hb3 SG
  go_wp2_with fail
  refine bodyPost_ret (v := .tuple #[delV [] [] 0 (.slice none 0 0), .int .i64 1]) (results_row_tmp Try.results12 _ _ w.heap.size _ _ _ _ rfl S4.out Try.underlying27 rfl del_info) rfl ⟨rfl, HB3.out.trans (S5.out.below HB3.out.size (fun k e => by omega))⟩

/-! ### The law's awake: chapter 6's first example -/
def d40 : Txt := [48, 49, 50, 51, 52, 53, 54, 55, 56, 57, 97, 98, 99, 100, 101, 102, 103, 104, 105, 106, 107, 108, 109, 110, 111, 112, 113, 114, 115, 116, 117, 118, 119, 120, 121, 122, 43, 45, 42, 47]
theorem d40_len : d40.length = 40 := by decide
set_option maxRecDepth 100000 in
set_option maxHeartbeats 1000000 in
theorem awake_any (w : World) : Calls Try.prog 16 #[] w fun e w' => e = .returned (.bool true) ∧ Below w.heap.size w w' := by
  have OF := Lib.hid (fun pb bm w' h1 h2 h3 h4 => ofI_ok pb bm 16 d40 d40 w' w (by decide) (by decide) (by rw [d40_len]; decide) (by rw [d40_len]; decide) h1 h2 h3 h4)
  have HS := Lib.hid (show stepsI 16 d40 d40 = [⟨0, 40, []⟩] by rw [stepsI_same (by decide), d40_len]; rfl)
  have HL := Lib.hid (show (⟨d40.toArray⟩ : ByteArray) = ⟨#[48, 49, 50, 51, 52, 53, 54, 55, 56, 57, 97, 98, 99, 100, 101, 102, 103, 104, 105, 106, 107, 108, 109, 110, 111, 112, 113, 114, 115, 116, 117, 118, 119, 120, 121, 122, 43, 45, 42, 47]⟩ from rfl)
  have HLN := Lib.hid d40_len
  go_enter Try.func16, Try.ntmps16
  go_wp2_with fail
  refine (ideal_any _).mono ?_
  rintro e w1 ⟨pb, bm, rfl, hid1, hp, hbm, hb1⟩
  have OF1 := Lib.hid (OF.out pb bm w1 hid1 hb1 hp hbm)
  generalize d40 = t at *
  rw [HL.out] at OF1
  clear OF hid1
  go_wp2_with fail
  refine OF1.out.mono ?_
  rintro e w2 ⟨v, S, b1, b2, rfl, ho, hid2, hbel, hxx⟩
  clear hxx
  rw [HS.out] at ho
  obtain ⟨g, cap, rfl, hg, hst⟩ := own_last (l := []) ho
  have hbb := below_self_alloc w2 (delC b1 b2 t.length (.slice (some ⟨g, 0, none⟩) 1 cap))
  obtain ⟨d0, d1, d2⟩ := hst.new hbb
  have c3 : (w2.alloc (delC b1 b2 t.length (.slice (some ⟨g, 0, none⟩) 1 cap))).cell? ⟨w2.heap.size, 3, none⟩ = some (.slice (some ⟨g, 0, none⟩) 1 cap) := by rw [cell_of_row _ _ _ _ _ _ (heap_alloc_new _ _)]; rfl
  have HB := Lib.hid (hbel.trans (hbb.mono hbel.size))
  simp only [List.length_nil, Nat.zero_mul, Nat.zero_add] at d0 d1 d2
  clear hbb hst ho hid2 hbel OF1 HS
  go_wp2_with fail
  go_ret
  exact ⟨rfl, HB.out⟩
end Go.Proofs.Ytfblkhmhelmjlaa
