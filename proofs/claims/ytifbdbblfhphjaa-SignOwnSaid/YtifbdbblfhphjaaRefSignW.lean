/- The walk of the document's Sign, by any book that marks. -/
import Derived.Test.YtifbdbblfhphjaaFrame
import Derived.Test.YtifbdbblfhphjaaGen
import Derived.Test.YtifbdbblfhphjaaInfos
import Derived.Test.YtifbdbblfhphjaaMarkMath
import Derived.Test.YtifbdbblfhphjaaOwnL
import Derived.Test.YtifbdbblfhphjaaRefBlocksW
import Derived.Test.YtifbdbblfhphjaaRollMath
import Derived.Test.YtifbdbblfhphjaaRows
import Derived.Test.YtifbdbblfhphjaaSigAt
import Derived.Test.YtifbdbblfhphjaaSignAW
import Derived.Test.YtifbdbblfhphjaaSignMath
import Derived.Test.YtifbdbblfhphjaaSignW
import Derived.Test.YtifbdbblfhphjaaWeak2W
import Derived.Test.YtifbdbblfhphjaaWeak3W
import Derived.BigQuiet
import Derived.Deep.QuietTactic
import Derived.IntWalk
import Derived.Laws.BitsAllLaws
import Derived.Laws.Rows
import Derived.Lib.Hide
import Derived.Outline
import Derived.StillTailTactics
import Derived.WalkKit
import Derived.WalkLawsBesides
import Derived.WalkSpells
set_option linter.unusedVariables false
namespace Go.Proofs.Ytifbdbblfhphjaa
open Go.RowKit

/-- A book beside a list of texts of the call's own. -/
def AtRow {σ : Type} (At : World → σ → Prop) (F : σ → Nat → Prop) (B : Nat) (vb : Value) (ts : List Txt) (w : World) (s : σ) : Prop := At w s ∧ OwnL encT w B 9 vb ts ∧ ∀ g, vb.ownBlock = some g → ¬ F s g
def FRow {σ : Type} (F : σ → Nat → Prop) (vb : Value) (s : σ) (k : Nat) : Prop := F s k ∨ vb.ownBlock = some k
theorem BookI.row {mf : FuncId} {bp : Value} {σ : Type} {At : World → σ → Prop} {F : σ → Nat → Prop} {nx : σ → Txt → σ → Prop} {mk : σ → Txt → Txt} {ok : Nat → σ → Prop} (I : BookI mf bp At F nx mk ok) (B : Nat) (vb : Value) (ts : List Txt) :
    BookI mf bp (AtRow At F B vb ts) (FRow F vb) nx mk ok := by
  refine ⟨fun w s t n hat hok ht => ?_, fun w s k hat hk => ?_, fun w w' s M hat hk hM => ?_⟩
  · refine (I.mark w s t n hat.1 hok ht).mono ?_
    rintro e w' ⟨s', rfl, h1, h2, h3, h4, h5⟩
    refine ⟨s', rfl, h1, h2, ⟨h3, own_off hat.2.1 h4 (fun g _ _ hg => hat.2.2 g hg), fun g hg hf => ?_⟩, h4.mono (fun k _ h => .inl h), fun k hk => ?_⟩
    · rcases h5 g hf with h | h
      · exact hat.2.2 g hg h
      · have := (Array.getElem?_eq_some_iff.1 (own_cells hat.2.1 hg).2.choose_spec).1
        omega
    · rcases hk with hk | hk
      · rcases h5 k hk with h | h
        · exact .inl (.inl h)
        · exact .inr h
      · exact .inl (.inr hk)
  · rcases hk with hk | hk
    · exact I.lt _ _ _ hat.1 hk
    · exact (Array.getElem?_eq_some_iff.1 (own_cells hat.2.1 hk).2.choose_spec).1
  · exact ⟨I.kept _ _ _ _ hat.1 hk (fun k h => hM k (.inl h)), own_off hat.2.1 hk (fun g _ _ hg => hM g (.inr hg)), hat.2.2⟩
theorem blk_nonempty (b : Nat) (l : Txt) (hb : 0 < b) (h : 0 < (cutS b l).length) : 0 < l.length := by
  rcases Nat.eq_zero_or_pos l.length with h0 | h0
  · rw [List.eq_nil_of_length_eq_zero h0, cutS_nil] at h; simp at h
  · exact h0

/-- The loop's state where the document's Sign begins it. -/
theorem refSign_start {mf : FuncId} {bp : Value} {σ : Type} {At : World → σ → Prop} {F : σ → Nat → Prop} {nx : σ → Txt → σ → Prop} {mk : σ → Txt → Txt} {ok : Nat → σ → Prop} (I : BookI mf bp At F nx mk ok) {b : Nat} {l : Txt} {w w0 w1 : World} {s0 : σ} {vb : Value} (hAt : At w s0)
    (hF : ∀ k, F s0 k → k < w.heap.size) (hok : ok (cutS b l).length s0) (hB0 : Below w.heap.size w w0) (hS0 : SigAt w0 w.heap.size (w.heap.size + 1) b l.length (.slice none 0 0) (.slice none 0 0) [] [])
    (hR0 : w0.heap[w.heap.size]? = some (sigC 0 0 (.slice none 0 0) (.slice none 0 0))) (hZ0 : w0.heap.size = w.heap.size + 2) (hvb : OwnL encT w1 w0.heap.size 9 vb (cutS b l)) (hb1 : Below w0.heap.size w0 w1) :
    SignL (AtRow At F w0.heap.size vb (cutS b l)) (FRow F vb) nx mk ok w s0 b l.length l l [] [] [] s0 (.slice none 0 0) (.slice none 0 0) w1 := by
  have hb := hB0.trans (hb1.mono hB0.size)
  refine ⟨hS0.new hb1, (Kept.new hb1 (fun _ => False)).old hR0 id, .nil, hok, ⟨I.kept _ _ _ _ hAt (Kept.new hb (fun _ => False)) (fun _ _ => id), hvb, fun g hg hf => ?_⟩, Kept.new hb _, fun k hk => .inl hk, fun k hk => ?_, rfl, by simp⟩
  · have := hF g hf
    have := (own_cells hvb hg).1
    omega
  · have hk' : k < w.heap.size ∨ w0.heap.size ≤ k := by
      rcases hk with hk | hk
      · exact .inl (hF k hk)
      · exact .inr (own_cells hvb hk).1
    refine ⟨?_, by omega⟩
    rintro (e | e | e)
    · omega
    · simp [Value.ownBlock] at e
    · simp [Value.ownBlock] at e

set_option maxRecDepth 100000 in
set_option maxHeartbeats 4000000 in
theorem refSign_ok {bp : Value} {σ : Type} {At : World → σ → Prop} {F : σ → Nat → Prop} {nx : σ → Txt → σ → Prop} {mk : σ → Txt → Txt} {ok : Nat → σ → Prop} (I0 : BookI 44 bp At F nx mk ok)
    (b : Nat) (l : Txt) (w : World) (s0 : σ) (hb : 16 ≤ b) (hb2 : b ≤ 1024) (hl : l.length ≤ 524288) (hAt : At w s0) (hok : ok (cutS b l).length s0) :
    Calls Try.prog 20 #[bp, .string ⟨l.toArray⟩, .int .i64 b] w (SignPost At F nx mk s0 w b l) := by
  have L := Lib.hid (show (⟨l.toArray⟩ : ByteArray).size = l.length from rfl)
  have HI0 := Lib.hid I0
  have HAt := Lib.hid hAt; clear hAt
  have HOk := Lib.hid hok; clear hok
  have HF := Lib.hid (fun k hk => I0.lt w s0 k HAt.out hk)
  have RB := fun w' => Lib.hid (refBlocks_any b l w' hb hb2 hl)
  have HBL := Lib.hid (cutS_le b (by omega) l)
  have HB0 := Lib.hid (show Below w.heap.size w ((w.alloc (sigC 0 0 (.slice none 0 0) (.slice none 0 0))).alloc (sigC b l.length (.slice none 0 0) (.slice none 0 0))) from ((Below.refl _ _).alloc (Nat.le_refl _) _).alloc (by simp) _)
  have HS0 := Lib.hid (show SigAt ((w.alloc (sigC 0 0 (.slice none 0 0) (.slice none 0 0))).alloc (sigC b l.length (.slice none 0 0) (.slice none 0 0))) w.heap.size (w.heap.size + 1) b l.length (.slice none 0 0) (.slice none 0 0) [] [] from ⟨heap_alloc2_new _ _ _, OwnL.nil _ _ _ _, OwnL.nil _ _ _ _⟩)
  have HR0 := Lib.hid (show ((w.alloc (sigC 0 0 (.slice none 0 0) (.slice none 0 0))).alloc (sigC b l.length (.slice none 0 0) (.slice none 0 0))).heap[w.heap.size]? = some (sigC 0 0 (.slice none 0 0) (.slice none 0 0)) from heap_alloc2_old _ _ _)
  have HZ0 := Lib.hid (show ((w.alloc (sigC 0 0 (.slice none 0 0) (.slice none 0 0))).alloc (sigC b l.length (.slice none 0 0) (.slice none 0 0))).heap.size = w.heap.size + 2 by simp)
  go_enter Try.func20, Try.ntmps20
  go_wp2_with fail
  generalize ((w.alloc (.cells #[.int .i64 0, .int .i64 0, .slice none 0 0, .slice none 0 0] 31)).alloc (.cells #[.int .i64 b, .int .i64 l.length, .slice none 0 0, .slice none 0 0] 31)) = w0 at *
  refine (RB _).out.mono ?_
  rintro e w1 ⟨vb, rfl, hvb, hb1⟩
  obtain ⟨va, vn, vc, rfl⟩ := own_slice hvb
  have hvn : vn = (cutS b l).length := by simpa [lenV] using own_lenV hvb
  subst hvn
  have HI := Lib.hid (HI0.out.row w0.heap.size (.slice va (cutS b l).length vc) (cutS b l))
  have HL0 := Lib.hid (refSign_start HI0.out HAt.out HF.out HOk.out HB0.out HS0.out HR0.out HZ0.out hvb hb1)
  clear hvb hb1
  clear HB0 HS0 HR0
  go_wp2
  go_loopw [10] (fun v wr => ∃ (k : Nat) (rest : Txt) (done ms : List Txt) (s : σ) (vw vs : Value), v = .int .i64 k ∧ done.length = k ∧ SignL (AtRow At F w0.heap.size (.slice va (cutS b l).length vc) (cutS b l)) (FRow F (.slice va (cutS b l).length vc)) nx mk ok w s0 b l.length l rest done done ms s vw vs wr) (fun v _ => (cutS b l).length - (intOf v).toNat)
  case atStart => exact ⟨0, l, [], [], s0, _, _, rfl, rfl, HL0.out⟩
  case round =>
    obtain ⟨k, rest, done, ms, s, vw, vs, rfl, hdk, hL⟩ := hrel
    have hfit := hL.fit
    have HL := Lib.hid hL; clear hL
    have hspl : (cutS b l).length = k + (cutS b rest).length := by rw [HL.out.split, List.length_append, hdk]
    by_cases hlt : k < (cutS b l).length
    · have hk5 : k ≤ 600000 := by have := HBL.out; omega
      have hrl := blk_nonempty b rest (by omega) (by omega)
      have HB := Lib.hid (cutS_cons b rest (by omega) hrl)
      have HRL := Lib.hid (show 1 + (rest.drop b).length ≤ rest.length by rw [List.length_drop]; omega)
      have ht1 : (rest.take b).length ≤ 1024 := by rw [List.length_take]; omega
      have HT : (cutS b l)[k] = rest.take b := by
        have e := HL.out.split
        rw [HB.out] at e
        simp only [e]
        rw [List.getElem_append_right (by omega)]
        simp [hdk]
      have HHT := Lib.hid HT; clear HT
      clear hspl
      generalize rest.take b = t at *
      have SM := fun w' => Lib.hid ((wrefSum_any t w' (by omega)).mono (fun e w'' h => (⟨h.1, h.2 ▸ Below.refl _ _⟩ : e = _ ∧ Below w'.heap.size w' w'')))
      obtain ⟨x, hx⟩ : ∃ x, x = wk t := ⟨_, rfl⟩
      rw [← hx] at SM
      have HDX := Lib.hid (show (done ++ [t]).map wk = done.map wk ++ [x] by rw [List.map_append, hx]; rfl); clear hx
      obtain ⟨i0, hi0, hz0, hz1, hz2⟩ := info_parts info_i64
      have Hi := Lib.hid hi0; clear hi0
      have Z0 := Lib.hid hz0; clear hz0
      have Z1 := Lib.hid hz1; clear hz1
      have Z2 := Lib.hid hz2; clear hz2
      have hsz := HL.out.kept.size
      have hdl : done.length ≤ 524288 := by omega
      have HDK := Lib.hid hdk; clear hdk
      have d1 := HL.out.sig.c.2.2.1
      obtain ⟨aa, cc, hvv, hcells⟩ := OwnL.row HL.out.at'.2.1
      injection hvv with ha hn hc
      clear hn hc
      subst ha
      obtain ⟨gb, gf, rfl, _, hcell⟩ := hcells k hlt
      rw [HHT.out] at hcell
      have i1 : (0 : Int) ≤ (k : Int) := by omega
      have i2 : (k : Int) < ((cutS b l).length : Int) := by omega
      clear hcells
      go_upto_region 10 with fail
      go_cut [] (fun wx => ∃ vw', SignL (AtRow At F w0.heap.size (.slice (some ⟨gb, gf, none⟩) (cutS b l).length vc) (cutS b l)) (FRow F (.slice (some ⟨gb, gf, none⟩) (cutS b l).length vc)) nx mk ok w s0 b l.length l rest (done ++ [t]) done ms s vw' vs wx)
      case first =>
        have LD := Lib.hid (HL.out.grow HI.out (Below_drew (Below.refl _ wr)))
        go_region_law (first
            | (go_simp; go_at_call 38; refine (SM _).out.mono ?_; rintro e w1 ⟨rfl, hb1⟩; have L1 := Lib.hid (LD.out.grow HI.out hb1); have d2 := L1.out.sig.c.2.2.1; have d3 := cell_alloc1 d2 (.cells #[.int .i64 (x : Nat)] 3); have HO := Lib.hid (World.ownsRow.alloc L1.out.sig.own1 (.cells #[.int .i64 (x : Nat)] 3)); have HN := Lib.hid (news_new w1 (.int .i64 (x : Nat)) 3); have hsz1 := L1.out.kept.size; clear hb1)
            | ((with_reducible refine step_append_lies (o := ⟨some 43, _, _, _, _, _⟩) (w1.alloc (.cells #[.int .i64 (x : Nat)] 3)) rfl (.tmp 36) (.tmp 42) 28 rfl w.heap.size 3 i0 (.int .i64 0) 1 8 Try.underlying28 Hi.out Z0.out Z1.out Z2.out rfl (by decide) vw (done.map wk).length ((done.map wk).map encN) ?ev HO.out ⟨w1.heap.size, 0, none⟩ 1 1 [.int .i64 (x : Nat)] ?ex rfl HN.out ?oc (Nat.succ_pos 0) ?l1 ?l2 ?l3 (w1.heap.size + 1) ?l4 ?_)
               case ev => simp [Act.eval]
               case ex => simp [Act.eval]
               case oc => simp [Value.oneCell']
               case l1 => rw [List.length_map]; unfold maxLen; omega
               case l2 => rw [List.length_map]; omega
               case l3 => simp; omega
               case l4 => simp
               intro g cap w2 hown hgrow hat hlt2
               obtain ⟨f1, d4, PS⟩ := SigAt.push1 L1.out.sig hown hgrow hat
               simp only [List.length_map] at PS
               have HP := Lib.hid PS; clear PS hown hgrow hat hlt2))
        all_goals
          go_wp2_with fail
          go_meet
          exact ⟨_, L1.out.turned HI.out (by rw [HDX.out]; exact HP.out.1) HP.out.2.1 HP.out.2.2⟩
      case rest =>
        obtain ⟨vw', hLc⟩ := hcut
        have LC := Lib.hid hLc; clear hLc HL SM hsz d1 HDX hcell
        have hsz := LC.out.kept.size
        have d1 := LC.out.sig.c.2.2.2
        obtain ⟨aa, cc, hvv, hcells⟩ := OwnL.row LC.out.at'.2.1
        injection hvv with ha hn hc
        clear hn hc
        subst ha
        obtain ⟨gb', gf', hgg, _, hcell⟩ := hcells k hlt
        injection hgg with hgg
        injection hgg with hgg1 hgg2
        subst hgg1
        subst hgg2
        rw [HHT.out] at hcell
        clear hcells
        have LD := Lib.hid (LC.out.grow HI.out (Below_drew (Below.refl _ wc)))
        have hokD := LD.out.ok'
        rw [HB.out, List.length_cons] at hokD
        have MK := Lib.hid (HI.out.mark wc.drew s t _ LD.out.at' hokD ht1)
        have MSL := Lib.hid (LD.out.marked.length)
        obtain ⟨mt, hmt⟩ : ∃ mt, mt = mk s t := ⟨_, rfl⟩
        rw [← hmt] at MK
        have HMT := Lib.hid hmt; clear hmt hokD
        obtain ⟨i3, hi1, hy0, hy1, hy2⟩ := info_parts info_str
        have Hi1 := Lib.hid hi1; clear hi1
        have Y0 := Lib.hid hy0; clear hy0
        have Y1 := Lib.hid hy1; clear hy1
        have Y2 := Lib.hid hy2; clear hy2
        go_upto_region 11 with fail
        go_region_law (first
          | (go_simp; go_at_call 44; refine MK.out.mono ?_; rintro e w1 ⟨s', rfl, hnx, hok', hat', hk', hf'⟩; obtain ⟨SG, FIN⟩ := LD.out.marks HI.out HB.out HRL.out hnx hok' hat' hk' hf'; have HFIN := Lib.hid FIN; have HSG := Lib.hid SG; have d2 := SG.c.2.2.2; have d3 := cell_alloc1 d2 (.cells #[.string ⟨mt.toArray⟩] 9); have HO := Lib.hid (World.ownsRow.alloc SG.own2 (.cells #[.string ⟨mt.toArray⟩] 9)); have HN := Lib.hid (news_new w1 (.string ⟨mt.toArray⟩) 9); have hsz1 : wc.heap.size ≤ w1.heap.size := hk'.size; clear SG FIN hnx hok' hat' hk' hf')
          | ((with_reducible refine step_append_lies (o := ⟨some 54, _, _, _, _, _⟩) (w1.alloc (.cells #[.string ⟨mt.toArray⟩] 9)) rfl (.tmp 46) (.tmp 53) 29 rfl w.heap.size 9 i3 (.string ByteArray.empty) 1 16 Try.underlying29 Hi1.out Y0.out Y1.out Y2.out rfl (by decide) vs ms.length (ms.map encT) ?ev HO.out ⟨w1.heap.size, 0, none⟩ 1 1 [.string ⟨mt.toArray⟩] ?ex rfl HN.out ?oc (Nat.succ_pos 0) ?l1 ?l2 ?l3 (w1.heap.size + 1) ?l4 ?_)
             case ev => simp [Act.eval]
             case ex => simp [Act.eval]
             case oc => simp [Value.oneCell']
             case l1 => rw [MSL.out]; unfold maxLen; omega
             case l2 => rw [MSL.out]; omega
             case l3 => simp; omega
             case l4 => simp
             intro g cap w2 hown hgrow hat hlt2
             obtain ⟨f1, d4, PS⟩ := SigAt.push2 HSG.out hown hgrow hat
             have HP := Lib.hid PS; clear PS hown hgrow hat hlt2))
        all_goals
          have LE := Lib.hid (HFIN.out _ _ _ _ (by have := HP.out.1; rw [HMT.out] at this; exact this) HP.out.2.1 HP.out.2.2)
          go_wp2
          go_roundw
          case rel => exact ⟨k + 1, _, _, _, _, _, _, by go_num, by rw [List.length_append, HDK.out]; rfl, LE.out⟩
          case measure => simp [intOf]; omega
    · obtain ⟨a1, n1, k1, rfl⟩ := own_slice HL.out.sig.own1
      obtain ⟨a2, n2, k2, rfl⟩ := own_slice HL.out.sig.own2
      obtain ⟨s0', s1', s2', s3', s4', s5'⟩ := sig_store (b' := b) (n' := l.length) (vw' := .slice a1 n1 k1) (vs' := .slice a2 n2 k2) HL.out.res
      have S0 := s0'.1
      have S0f := s0'.2
      have S1 := s1'.1
      have S1f := s1'.2
      have S2 := s2'.1
      have S2f := s2'.2
      have S3 := s3'.1
      have S3f := s3'.2
      have S4 := Lib.hid s4'
      have S5 := Lib.hid s5'
      clear s0' s1' s2' s3' s4' s5'
      obtain ⟨c0, c1, c2, c3⟩ := HL.out.sig.c
      have hnl : ¬ (k : Int) < ((cutS b l).length : Int) := by omega
      have HD := Lib.hid (show done = cutS b l by
        have := HL.out.split
        rw [List.eq_nil_of_length_eq_zero (l := cutS b rest) (by omega), List.append_nil] at this
        exact this.symm)
      go_wp2
      refine bodyPost_ret (v := .tuple #[sigV b l.length (.slice a1 n1 k1) (.slice a2 n2 k2), .int .i64 0]) (results_row_tmp Try.results20 _ _ w.heap.size _ _ _ _ rfl S4.out Try.underlying31 rfl sig_info) rfl ?_
      have hk := S5.out
      have hn := HL.out.off_res
      have hnew : ∀ k, FRow F (.slice va (cutS b l).length vc) s k → F s0 k ∨ w.heap.size ≤ k := fun k hf => by
        rcases HL.out.new k hf with (h | h) | h
        · exact .inl h
        · have := (own_cells HL0.out.at'.2.1 h).1
          have := HZ0.out
          exact .inr (by omega)
        · exact .inr h
      refine ⟨_, _, ms, s, rfl, ?_, ?_, ?_, ?_, ?_, fun k hf => hnew k (.inl hf), ?_⟩
      · rw [← HD.out]; exact own_off HL.out.sig.own1 hk (fun g _ _ hg e => hn (.inr (.inl (by rw [← e]; exact hg))))
      · exact own_off HL.out.sig.own2 hk (fun g _ _ hg e => hn (.inr (.inr (by rw [← e]; exact hg))))
      · rw [← HD.out]; exact HL.out.marked
      · exact HI0.out.kept _ _ _ _ HL.out.at'.1 hk (fun k hf e => (HL.out.off k (.inl hf)).2 e)
      · have h0 := HL.out.kept
        refine ⟨hk.os.trans h0.os, hk.tape.trans h0.tape, hk.output.trans h0.output, Nat.le_trans h0.size hk.size, fun k hkl hm => (hk.block k (Nat.lt_of_lt_of_le hkl h0.size) (fun e => by omega)).trans (h0.block k hkl (fun hf => ?_))⟩
        rcases hf with hf | hf
        · exact hm hf
        · have := (own_cells HL0.out.at'.2.1 hf).1
          have := HZ0.out
          omega
      · exact fun k hf => ⟨fun e => (HL.out.off k (.inl hf)).1 (.inr (.inl e)), fun e => (HL.out.off k (.inl hf)).1 (.inr (.inr e))⟩
end Go.Proofs.Ytifbdbblfhphjaa
