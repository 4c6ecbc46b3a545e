/- The walk of Sign, by any book that marks. -/
import Derived.Test.YtpkgjokehgihjaaGreatFrame
import Derived.Test.YtpkgjokehgihjaaGreatGen
import Derived.Test.YtpkgjokehgihjaaGreatInfos
import Derived.Test.YtpkgjokehgihjaaGreatMarkMath
import Derived.Test.YtpkgjokehgihjaaGreatOwnL
import Derived.Test.YtpkgjokehgihjaaGreatRollMath
import Derived.Test.YtpkgjokehgihjaaGreatRows
import Derived.Test.YtpkgjokehgihjaaGreatSigAt
import Derived.Test.YtpkgjokehgihjaaGreatSignAW
import Derived.Test.YtpkgjokehgihjaaGreatSignMath
import Derived.Test.YtpkgjokehgihjaaGreatWkX
import Derived.BigQuiet
import Derived.BigRegion
import Derived.Deep.CutBlock
import Derived.Deep.DeepCutAuto
import Derived.Deep.QuietTactic
import Derived.Deep.RegionLaw
import Derived.IntWalk
import Derived.Laws.BitsAllLaws
import Derived.Laws.Rows
import Derived.Lib.Hide
import Derived.Outline
import Derived.StillTailTactics
import Derived.WalkKit
import Derived.WalkLawsBesides
import Derived.WalkSpells
set_option linter.unusedVariables false
namespace Go.Proofs.YtpkgjokehgihjaaGreat
open Go.RowKit

/-- A book that marks: its states, what it touches, how a text is marked; ok n: n texts more may be marked. -/
structure BookI (mf : FuncId) (bp : Value) {σ : Type} (At : World → σ → Prop) (F : σ → Nat → Prop) (nx : σ → Txt → σ → Prop) (mk : σ → Txt → Txt) (ok : Nat → σ → Prop) : Prop where
  mark : ∀ (w : World) (s : σ) (t : Txt) (n : Nat), At w s → ok (n + 1) s → t.length ≤ 1024 → Calls Tryz.prog mf #[bp, .string ⟨t.toArray⟩] w fun e w' =>
    ∃ s', e = .returned (.string ⟨(mk s t).toArray⟩) ∧ nx s t s' ∧ ok n s' ∧ At w' s' ∧ Kept (F s) w w' ∧ ∀ k, F s' k → F s k ∨ w.heap.size ≤ k
  lt : ∀ (w : World) (s : σ) (k : Nat), At w s → F s k → k < w.heap.size
  kept : ∀ (w w' : World) (s : σ) (M : Nat → Prop), At w s → Kept M w w' → (∀ k, F s k → ¬ M k) → At w' s

theorem isBlock_yes (b : Nat) (w : World) (hb : 16 ≤ b) (hb2 : b ≤ 1024) : Calls Tryz.prog 38 #[.int .i64 b] w fun e w' => e = .returned (.bool true) ∧ w = w' := by
  have := isBlock_any b w
  rwa [decide_eq_true ⟨by omega, by omega⟩] at this
theorem isBlock_no (n : Int) (w : World) (h : n < 16 ∨ 1024 < n) : Calls Tryz.prog 38 #[.int .i64 n] w fun e w' => e = .returned (.bool false) ∧ w = w' := by
  have := isBlock_any n w
  rwa [decide_eq_false (by omega)] at this

/-- What Sign tells: the signature, its lists of the call's own; the book's state. -/
def SignPost {σ : Type} (At : World → σ → Prop) (F : σ → Nat → Prop) (nx : σ → Txt → σ → Prop) (mk : σ → Txt → Txt) (s0 : σ) (w : World) (b : Nat) (l : Txt) (e : Ending) (w' : World) : Prop :=
  ∃ vw vs ms s, e = .returned (.tuple #[sigV b l.length vw vs, .int .i64 0]) ∧
    OwnL encN w' w.heap.size 3 vw ((cutS b l).map wk) ∧ OwnL encT w' w.heap.size 9 vs ms ∧ Marked nx mk s0 (cutS b l) ms s ∧ At w' s ∧ Kept (F s0) w w' ∧
    (∀ k, F s k → F s0 k ∨ w.heap.size ≤ k) ∧ ∀ k, F s k → vw.ownBlock ≠ some k ∧ vs.ownBlock ≠ some k
/-- How long a text is. -/
def lenT : Value → Nat
  | .string b => b.size
  | _ => 0
/-- How far Sign is. -/
structure SignL {σ : Type} (At : World → σ → Prop) (F : σ → Nat → Prop) (nx : σ → Txt → σ → Prop) (mk : σ → Txt → Txt) (ok : Nat → σ → Prop) (w : World) (s0 : σ) (b n : Nat) (l rest : Txt) (done1 done ms : List Txt) (s : σ) (vw vs : Value) (wr : World) : Prop where
  sig : SigAt wr w.heap.size (w.heap.size + 1) b n vw vs (done1.map wk) ms
  res : wr.heap[w.heap.size]? = some (sigC 0 0 (.slice none 0 0) (.slice none 0 0))
  marked : Marked nx mk s0 done ms s
  ok' : ok (cutS b rest).length s
  at' : At wr s
  kept : Kept (F s0) w wr
  new : ∀ k, F s k → F s0 k ∨ w.heap.size ≤ k
  off : ∀ k, F s k → ¬ footS (w.heap.size + 1) vw vs k ∧ k ≠ w.heap.size
  split : cutS b l = done ++ cutS b rest
  fit : done.length + rest.length ≤ l.length
section
variable {mf : FuncId} {bp : Value} {σ : Type} {At : World → σ → Prop} {F : σ → Nat → Prop} {nx : σ → Txt → σ → Prop} {mk : σ → Txt → Txt} {ok : Nat → σ → Prop} {w wr w1 w2 : World} {s0 s s' : σ} {b n : Nat} {l rest t : Txt} {done1 done ms : List Txt} {vw vs : Value}
/-- Behind new blocks. -/
theorem SignL.grow (I : BookI mf bp At F nx mk ok) (h : SignL At F nx mk ok w s0 b n l rest done1 done ms s vw vs wr) (hb : Below wr.heap.size wr w1) : SignL At F nx mk ok w s0 b n l rest done1 done ms s vw vs w1 :=
  ⟨h.sig.new hb, (Kept.new hb (fun _ => False)).old h.res id, h.marked, h.ok', I.kept _ _ _ (fun _ => False) h.at' (Kept.new hb _) (fun _ _ => id), h.kept.trans (Kept.new hb _), h.new, h.off, h.split, h.fit⟩
theorem SignL.off_res (h : SignL At F nx mk ok w s0 b n l rest done1 done ms s vw vs wr) : ¬ footS (w.heap.size + 1) vw vs w.heap.size := by
  rintro (e | e | e)
  · omega
  · obtain ⟨_, cur, hc⟩ := own_cells h.sig.own1 e
    rw [h.res] at hc
    simp at hc
  · obtain ⟨_, cur, hc⟩ := own_cells h.sig.own2 e
    rw [h.res] at hc
    simp at hc
theorem SignL.foot_new (h : SignL At F nx mk ok w s0 b n l rest done1 done ms s vw vs wr) {k : Nat} (hk : footS (w.heap.size + 1) vw vs k) : w.heap.size ≤ k := by
  rcases hk with e | e | e
  · omega
  · exact (own_cells h.sig.own1 e).1
  · exact (own_cells h.sig.own2 e).1
/-- Behind a step that turned the signature's own blocks. -/
theorem SignL.turned (I : BookI mf bp At F nx mk ok) {vw' vs' : Value} {done2 : List Txt} (h : SignL At F nx mk ok w s0 b n l rest done1 done ms s vw vs wr) (hs : SigAt w2 w.heap.size (w.heap.size + 1) b n vw' vs' (done2.map wk) ms)
    (hk : Kept (footS (w.heap.size + 1) vw vs) wr w2) (hf : ∀ k, footS (w.heap.size + 1) vw' vs' k → footS (w.heap.size + 1) vw vs k ∨ wr.heap.size ≤ k) :
    SignL At F nx mk ok w s0 b n l rest done2 done ms s vw' vs' w2 := by
  refine ⟨hs, hk.old h.res h.off_res, h.marked, h.ok', I.kept _ _ _ _ h.at' hk (fun k hk' => (h.off k hk').1), ?_, h.new, ?_, h.split, h.fit⟩
  · exact ⟨hk.os.trans h.kept.os, hk.tape.trans h.kept.tape, hk.output.trans h.kept.output, Nat.le_trans h.kept.size hk.size, fun k hkl hm => (hk.block k (Nat.lt_of_lt_of_le hkl h.kept.size) (fun hf => by have := h.foot_new hf; omega)).trans (h.kept.block k hkl hm)⟩
  · intro k hk'
    refine ⟨fun hfk => ?_, (h.off k hk').2⟩
    rcases hf k hfk with h1 | h1
    · exact (h.off k hk').1 h1
    · have := I.lt _ _ _ h.at' hk'
      omega
/-- Behind a mark that the book has made. -/
theorem SignL.marks (I : BookI mf bp At F nx mk ok) (h : SignL At F nx mk ok w s0 b n l rest done1 done ms s vw vs wr) {t : Txt} {r2 : Txt} (hr : cutS b rest = t :: cutS b r2) (hl : 1 + r2.length ≤ rest.length)
    (hnx : nx s t s') (hok : ok (cutS b r2).length s') (hat : At w1 s') (hk : Kept (F s) wr w1) (hf : ∀ k, F s' k → F s k ∨ wr.heap.size ≤ k) :
    SigAt w1 w.heap.size (w.heap.size + 1) b n vw vs (done1.map wk) ms ∧ (∀ w2 done2 vw' vs', SigAt w2 w.heap.size (w.heap.size + 1) b n vw' vs' (done2.map wk) (ms ++ [mk s t]) → Kept (footS (w.heap.size + 1) vw vs) w1 w2 →
      (∀ k, footS (w.heap.size + 1) vw' vs' k → footS (w.heap.size + 1) vw vs k ∨ w1.heap.size ≤ k) → SignL At F nx mk ok w s0 b n l r2 done2 (done ++ [t]) (ms ++ [mk s t]) s' vw' vs' w2) := by
  have hs1 : SigAt w1 w.heap.size (w.heap.size + 1) b n vw vs (done1.map wk) ms := h.sig.kept hk (fun k h1 h2 => (h.off k h2).1 h1)
  have hres1 : w1.heap[w.heap.size]? = some (sigC 0 0 (.slice none 0 0) (.slice none 0 0)) := hk.old h.res (fun h2 => (h.off _ h2).2 rfl)
  have hoff1 : ∀ k, F s' k → ¬ footS (w.heap.size + 1) vw vs k ∧ k ≠ w.heap.size := by
    intro k hk'
    rcases hf k hk' with h1 | h1
    · exact h.off k h1
    · refine ⟨fun h2 => ?_, fun e => ?_⟩
      · have := h.sig.lt h2; omega
      · have := h.kept.size
        have := (Array.getElem?_eq_some_iff.1 h.res).1
        omega
  refine ⟨hs1, fun w2 done2 vw' vs' hs2 hk2 hf2 => ⟨hs2, hk2.old hres1 h.off_res, h.marked.snoc hnx, hok, I.kept _ _ _ _ hat hk2 (fun k hk' => (hoff1 k hk').1), ?_, ?_, ?_, ?_, ?_⟩⟩
  · refine ⟨hk2.os.trans (hk.os.trans h.kept.os), hk2.tape.trans (hk.tape.trans h.kept.tape), hk2.output.trans (hk.output.trans h.kept.output), Nat.le_trans h.kept.size (Nat.le_trans hk.size hk2.size), fun k hkl hm => ?_⟩
    have hlr := Nat.lt_of_lt_of_le hkl h.kept.size
    rw [hk2.block k (Nat.lt_of_lt_of_le hlr hk.size) (fun hf' => by have := h.foot_new hf'; omega), hk.block k hlr (fun hf' => ?_), h.kept.block k hkl hm]
    rcases h.new k hf' with h1 | h1
    · exact hm h1
    · omega
  · intro k hk'
    rcases hf k hk' with h1 | h1
    · exact h.new k h1
    · right; exact Nat.le_trans h.kept.size h1
  · intro k hk'
    refine ⟨fun hfk => ?_, (hoff1 k hk').2⟩
    rcases hf2 k hfk with h1 | h1
    · exact (hoff1 k hk').1 h1
    · have := I.lt _ _ _ hat hk'
      omega
  · rw [h.split, hr, List.append_assoc]; rfl
  · have := h.fit
    rw [List.length_append, List.length_singleton]
    omega
end

set_option maxRecDepth 100000 in
set_option maxHeartbeats 4000000 in
theorem sign_ok {bp : Value} {σ : Type} {At : World → σ → Prop} {F : σ → Nat → Prop} {nx : σ → Txt → σ → Prop} {mk : σ → Txt → Txt} {ok : Nat → σ → Prop} (I : BookI 24 bp At F nx mk ok)
    (b : Nat) (l : Txt) (w : World) (s0 : σ) (hb : 16 ≤ b) (hb2 : b ≤ 1024) (hl : l.length ≤ 524288) (hAt : At w s0) (hok : ok (cutS b l).length s0) :
    Calls Tryz.prog 22 #[bp, .string ⟨l.toArray⟩, .int .i64 b] w (SignPost At F nx mk s0 w b l) := by
  have IB := fun w' => Lib.hid (isBlock_yes b w' hb hb2)
  have L := Lib.hid (show (⟨l.toArray⟩ : ByteArray).size = l.length from rfl)
  have HI := Lib.hid I
  have HAt := Lib.hid hAt; clear hAt
  have HOk := Lib.hid hok; clear hok
  have HF := Lib.hid (fun k hk => I.lt w s0 k HAt.out hk)
  go_enter Tryz.func22, Tryz.ntmps22
  go_wp2_with fail
  refine (IB _).out.mono ?_
  rintro e w' ⟨rfl, rfl⟩
  have HB0 := Lib.hid (show Below w.heap.size w ((w.alloc (sigC 0 0 (.slice none 0 0) (.slice none 0 0))).alloc (sigC b l.length (.slice none 0 0) (.slice none 0 0))) from ((Below.refl _ _).alloc (Nat.le_refl _) _).alloc (by simp) _)
  have HS0 := Lib.hid (show SigAt ((w.alloc (sigC 0 0 (.slice none 0 0) (.slice none 0 0))).alloc (sigC b l.length (.slice none 0 0) (.slice none 0 0))) w.heap.size (w.heap.size + 1) b l.length (.slice none 0 0) (.slice none 0 0) [] [] from ⟨heap_alloc2_new _ _ _, OwnL.nil _ _ _ _, OwnL.nil _ _ _ _⟩)
  have HR0 := Lib.hid (show ((w.alloc (sigC 0 0 (.slice none 0 0) (.slice none 0 0))).alloc (sigC b l.length (.slice none 0 0) (.slice none 0 0))).heap[w.heap.size]? = some (sigC 0 0 (.slice none 0 0) (.slice none 0 0)) from heap_alloc2_old _ _ _)
  go_wp2
  generalize ((w.alloc (.cells #[.int .i64 0, .int .i64 0, .slice none 0 0, .slice none 0 0] 58)).alloc (.cells #[.int .i64 b, .int .i64 l.length, .slice none 0 0, .slice none 0 0] 58)) = w0 at *
  go_loopw [1] (fun v wr => ∃ (rest : Txt) (done ms : List Txt) (s : σ) (vw vs : Value), v = .string ⟨rest.toArray⟩ ∧ SignL At F nx mk ok w s0 b l.length l rest done done ms s vw vs wr) (fun v _ => lenT v)
  case atStart =>
    refine ⟨l, [], [], s0, _, _, rfl, HS0.out, HR0.out, .nil, HOk.out, HI.out.kept _ _ _ _ HAt.out (Kept.new HB0.out (fun _ => False)) (fun _ _ => id), Kept.new HB0.out _, fun k hk => .inl hk, fun k hk => ?_, rfl, by simp⟩
    have := HF.out k hk
    refine ⟨?_, by omega⟩
    rintro (e | e | e)
    · omega
    · simp [Value.ownBlock] at e
    · simp [Value.ownBlock] at e
  case round =>
    obtain ⟨rest, done, ms, s, vw, vs, rfl, hL⟩ := hrel
    have hfit := hL.fit
    have HL := Lib.hid hL; clear hL
    have RL := Lib.hid (show (⟨rest.toArray⟩ : ByteArray).size = rest.length from rfl)
    by_cases hlt : 0 < rest.length
    · have hne : rest.isEmpty = false := by cases rest <;> simp_all
      have HE := Lib.hid (show (⟨rest.toArray⟩ : ByteArray).extract 0 (((min rest.length b : Nat) : Int)).toNat = ⟨(rest.take b).toArray⟩ by
        rw [take_toArray, Int.toNat_natCast]
        congr 2
        rcases Nat.lt_or_ge rest.length b with h | h
        · rw [Nat.min_eq_left (by omega), List.take_of_length_le (Nat.le_refl _), List.take_of_length_le (by omega)]
        · rw [Nat.min_eq_right h])
      have HB := Lib.hid (cutS_cons b rest (by omega) hlt)
      have HRL := Lib.hid (show 1 + (rest.drop b).length ≤ rest.length by rw [List.length_drop]; omega)
      have HTL := Lib.hid (show rest.drop (rest.take b).length = rest.drop b by rw [List.length_take]; rcases Nat.lt_or_ge rest.length b with h | h; (rw [Nat.min_eq_right (by omega), List.drop_of_length_le (Nat.le_refl _), List.drop_of_length_le (by omega)]); (rw [Nat.min_eq_left h]))
      have HM := Lib.hid (show (if rest.length < b then (rest.length : Int) else (b : Int)) = ((min rest.length b : Nat) : Int) by split <;> omega)
      have ht1 : (rest.take b).length ≤ 1024 := by rw [List.length_take]; omega
      have ht2 : (rest.take b).length ≤ rest.length := by rw [List.length_take]; omega
      go_upto_region 8 with fail
      rw [HM.out, HE.out]
      clear HM HE
      generalize ((min rest.length b : Nat) : Int) = mm at *
      generalize rest.take b = t at *
      have SM := fun w' => Lib.hid (sum_any t w' (by omega))
      obtain ⟨x, hx⟩ : ∃ x, x = wk t := ⟨_, rfl⟩
      rw [← hx] at SM
      have HDX := Lib.hid (show (done ++ [t]).map wk = done.map wk ++ [x] by rw [List.map_append, hx]; rfl); clear hx
      obtain ⟨i0, hi0, hz0, hz1, hz2⟩ := info_parts info_i64
      have Hi := Lib.hid hi0; clear hi0
      have Z0 := Lib.hid hz0; clear hz0
      have Z1 := Lib.hid hz1; clear hz1
      have Z2 := Lib.hid hz2; clear hz2
      have hsz := HL.out.kept.size
      have d1 := HL.out.sig.c.2.2.1
      go_cut [] (fun wx => ∃ vw', SignL At F nx mk ok w s0 b l.length l rest (done ++ [t]) done ms s vw' vs wx)
      case first =>
        have LD := Lib.hid (HL.out.grow HI.out (Below_drew (Below.refl _ wr)))
        go_region_law (first
            | (go_simp; go_at_call 39; refine (SM _).out.mono ?_; rintro e w1 ⟨rfl, hb1⟩; have L1 := Lib.hid (LD.out.grow HI.out hb1); have d2 := L1.out.sig.c.2.2.1; have d3 := cell_alloc1 d2 (.cells #[.int .i64 (x : Nat)] 3); have HO := Lib.hid (World.ownsRow.alloc L1.out.sig.own1 (.cells #[.int .i64 (x : Nat)] 3)); have HN := Lib.hid (news_new w1 (.int .i64 (x : Nat)) 3); have hsz1 := L1.out.kept.size; clear hb1)
            | ((with_reducible refine step_append_lies (o := ⟨some 35, _, _, _, _, _⟩) (w1.alloc (.cells #[.int .i64 (x : Nat)] 3)) rfl (.tmp 31) (.tmp 34) 56 rfl w.heap.size 3 i0 (.int .i64 0) 1 8 Tryz.underlying56 Hi.out Z0.out Z1.out Z2.out rfl (by decide) vw (done.map wk).length ((done.map wk).map encN) ?ev HO.out ⟨w1.heap.size, 0, none⟩ 1 1 [.int .i64 (x : Nat)] ?ex rfl HN.out ?oc (Nat.succ_pos 0) ?l1 ?l2 ?l3 (w1.heap.size + 1) ?l4 ?_)
               case ev => simp [Act.eval]
               case ex => simp [Act.eval]
               case oc => simp [Value.oneCell']
               case l1 => rw [List.length_map]; unfold maxLen; omega
               case l2 => rw [List.length_map]; omega
               case l3 => simp; omega
               case l4 => simp
               intro g cap w2 hown hgrow hat hlt2
               obtain ⟨f1, d4, PS⟩ := SigAt.push1 L1.out.sig hown hgrow hat
               simp only [List.length_map] at PS
               have HP := Lib.hid PS; clear PS hown hgrow hat hlt2))
        all_goals
          go_wp2_with fail
          go_meet
          exact ⟨_, L1.out.turned HI.out (by rw [HDX.out]; exact HP.out.1) HP.out.2.1 HP.out.2.2⟩
      case rest =>
        obtain ⟨vw', hLc⟩ := hcut
        have LC := Lib.hid hLc; clear hLc HL SM hsz d1 HDX
        have hsz := LC.out.kept.size
        have d1 := LC.out.sig.c.2.2.2
        have LD := Lib.hid (LC.out.grow HI.out (Below_drew (Below.refl _ wc)))
        have hokD := LD.out.ok'
        rw [HB.out, List.length_cons] at hokD
        have MK := Lib.hid (HI.out.mark wc.drew s t _ LD.out.at' hokD ht1)
        have MSL := Lib.hid (LD.out.marked.length)
        obtain ⟨mt, hmt⟩ : ∃ mt, mt = mk s t := ⟨_, rfl⟩
        rw [← hmt] at MK
        have HMT := Lib.hid hmt; clear hmt hokD
        obtain ⟨i1, hi1, hy0, hy1, hy2⟩ := info_parts info_str
        have Hi1 := Lib.hid hi1; clear hi1
        have Y0 := Lib.hid hy0; clear hy0
        have Y1 := Lib.hid hy1; clear hy1
        have Y2 := Lib.hid hy2; clear hy2
        go_upto_region 9 with fail
        go_cut [] (fun wx => ∃ (s' : σ) (ms' : List Txt) (vs' : Value), SignL At F nx mk ok w s0 b l.length l (rest.drop b) (done ++ [t]) (done ++ [t]) ms' s' vw' vs' wx)
        case first =>
          go_region_law (first
            | (go_simp; go_at_call 24; refine MK.out.mono ?_; rintro e w1 ⟨s', rfl, hnx, hok', hat', hk', hf'⟩; obtain ⟨SG, FIN⟩ := LD.out.marks HI.out HB.out HRL.out hnx hok' hat' hk' hf'; have HFIN := Lib.hid FIN; have HSG := Lib.hid SG; have d2 := SG.c.2.2.2; have d3 := cell_alloc1 d2 (.cells #[.string ⟨mt.toArray⟩] 9); have HO := Lib.hid (World.ownsRow.alloc SG.own2 (.cells #[.string ⟨mt.toArray⟩] 9)); have HN := Lib.hid (news_new w1 (.string ⟨mt.toArray⟩) 9); have hsz1 : wc.heap.size ≤ w1.heap.size := hk'.size; clear SG FIN hnx hok' hat' hk' hf')
            | ((with_reducible refine step_append_lies (o := ⟨some 43, _, _, _, _, _⟩) (w1.alloc (.cells #[.string ⟨mt.toArray⟩] 9)) rfl (.tmp 38) (.tmp 42) 22 rfl w.heap.size 9 i1 (.string ByteArray.empty) 1 16 Tryz.underlying22 Hi1.out Y0.out Y1.out Y2.out rfl (by decide) vs ms.length (ms.map encT) ?ev HO.out ⟨w1.heap.size, 0, none⟩ 1 1 [.string ⟨mt.toArray⟩] ?ex rfl HN.out ?oc (Nat.succ_pos 0) ?l1 ?l2 ?l3 (w1.heap.size + 1) ?l4 ?_)
               case ev => simp [Act.eval]
               case ex => simp [Act.eval]
               case oc => simp [Value.oneCell']
               case l1 => rw [MSL.out]; unfold maxLen; omega
               case l2 => rw [MSL.out]; omega
               case l3 => simp; omega
               case l4 => simp
               intro g cap w2 hown hgrow hat hlt2
               obtain ⟨f1, d4, PS⟩ := SigAt.push2 HSG.out hown hgrow hat
               have HP := Lib.hid PS; clear PS hown hgrow hat hlt2))
          all_goals
            go_wp2_with fail
            go_meet
            rw [HMT.out] at HP
            exact ⟨_, _, _, HFIN.out _ _ _ _ HP.out.1 HP.out.2.1 HP.out.2.2⟩
        case rest =>
          obtain ⟨s', ms', vs', hLe⟩ := hcut
          have LE := Lib.hid hLe; clear hLe
          have TL := Lib.hid (show (⟨t.toArray⟩ : ByteArray).size = t.length from rfl)
          have E := show (⟨rest.toArray⟩ : ByteArray).extract t.length rest.length = ⟨(rest.drop b).toArray⟩ by rw [drop_toArray _ _ _ (Nat.le_refl _), HTL.out]
          have bt : (t.length : Int) ≤ (rest.length : Int) := by omega
          go_wp2
          go_roundw
          case rel => exact ⟨_, _, _, _, _, _, rfl, LE.out⟩
          case measure =>
            have := HRL.out
            show (rest.drop b).length < rest.length
            omega
    · have hnil : rest = [] := List.eq_nil_of_length_eq_zero (by omega)
      subst hnil
      obtain ⟨a1, n1, k1, rfl⟩ := own_slice HL.out.sig.own1
      obtain ⟨a2, n2, k2, rfl⟩ := own_slice HL.out.sig.own2
      obtain ⟨s0', s1', s2', s3', s4', s5'⟩ := sig_store (b' := b) (n' := l.length) (vw' := .slice a1 n1 k1) (vs' := .slice a2 n2 k2) HL.out.res
      have S0 := s0'.1
      have S0f := s0'.2
      have S1 := s1'.1
      have S1f := s1'.2
      have S2 := s2'.1
      have S2f := s2'.2
      have S3 := s3'.1
      have S3f := s3'.2
      have S4 := Lib.hid s4'
      have S5 := Lib.hid s5'
      clear s0' s1' s2' s3' s4' s5'
      obtain ⟨c0, c1, c2, c3⟩ := HL.out.sig.c
      have HD := Lib.hid (show done = cutS b l by have := HL.out.split; rw [cutS_nil, List.append_nil] at this; exact this.symm)
      go_wp2
      refine bodyPost_ret (v := .tuple #[sigV b l.length (.slice a1 n1 k1) (.slice a2 n2 k2), .int .i64 0]) (results_row_tmp Tryz.results22 _ _ w.heap.size _ _ _ _ rfl S4.out Tryz.underlying58 rfl sig_info) rfl ?_
      have hk := S5.out
      have hn := HL.out.off_res
      refine ⟨_, _, ms, s, rfl, ?_, ?_, ?_, ?_, ?_, HL.out.new, ?_⟩
      · rw [← HD.out]; exact own_off HL.out.sig.own1 hk (fun g _ _ hg e => hn (.inr (.inl (by rw [← e]; exact hg))))
      · exact own_off HL.out.sig.own2 hk (fun g _ _ hg e => hn (.inr (.inr (by rw [← e]; exact hg))))
      · rw [← HD.out]; exact HL.out.marked
      · exact HI.out.kept _ _ _ _ HL.out.at' hk (fun k hf e => (HL.out.off k hf).2 e)
      · have h0 := HL.out.kept
        exact ⟨hk.os.trans h0.os, hk.tape.trans h0.tape, hk.output.trans h0.output, Nat.le_trans h0.size hk.size, fun k hkl hm => (hk.block k (Nat.lt_of_lt_of_le hkl h0.size) (fun e => by omega)).trans (h0.block k hkl hm)⟩
      · exact fun k hf => ⟨fun e => (HL.out.off k hf).1 (.inr (.inl e)), fun e => (HL.out.off k hf).1 (.inr (.inr e))⟩
end Go.Proofs.YtpkgjokehgihjaaGreat
