/- Several texts in one: RefFindW, RefMatW, RefMakeW, RefMake2W. -/
import Derived.Test.YtcbodpcekjngbaaGreatBookW
import Derived.Test.YtcbodpcekjngbaaGreatFrame
import Derived.Test.YtcbodpcekjngbaaGreatGen
import Derived.Test.YtcbodpcekjngbaaGreatInfos
import Derived.Test.YtcbodpcekjngbaaGreatOwnL
import Derived.Test.YtcbodpcekjngbaaGreatProg
import Derived.Test.YtcbodpcekjngbaaGreatRowKeep
import Derived.Test.YtcbodpcekjngbaaGreatRows
import Derived.Test.YtcbodpcekjngbaaGreatTabX
import Derived.Test.YtcbodpcekjngbaaGreatSameW
import Derived.Test.YtcbodpcekjngbaaGreatShelf
import Derived.Test.YtcbodpcekjngbaaGreatSigAt
import Derived.Test.YtcbodpcekjngbaaGreatSignAW
import Derived.Test.YtcbodpcekjngbaaGreatSignMath
import Derived.Test.YtcbodpcekjngbaaGreatSortX
import Derived.Test.YtcbodpcekjngbaaGreatSortEW
import Derived.BigQuiet
import Derived.BigRegion
import Derived.ChangeAlike
import Derived.Deep.CutBlock
import Derived.Deep.DeepCutAuto
import Derived.Deep.QuietTactic
import Derived.Deep.RegionHeld3
import Derived.Deep.RegionLaw
import Derived.IntWalk
import Derived.Laws.BitsAllLaws
import Derived.Laws.Rows
import Derived.Laws.Tables
import Derived.Lib.Hide
import Derived.Outline
import Derived.RegionTactic
import Derived.Sort.Walk0
import Derived.StillTailTactics
import Derived.WalkKit
import Derived.WalkLawsBesides
import Derived.WalkSpells
import Derived.Test.YtcbodpcekjngbaaGreatArgs3
import Derived.Test.YtcbodpcekjngbaaGreatCmpW
import Derived.Test.YtcbodpcekjngbaaGreatMarkMath
import Derived.Test.YtcbodpcekjngbaaGreatGaX
import Derived.Test.YtcbodpcekjngbaaGreatNewTabW
import Derived.Test.YtcbodpcekjngbaaGreatCdX
import Derived.Test.YtcbodpcekjngbaaGreatBkX
import Derived.Test.YtcbodpcekjngbaaGreatRollMath
import Derived.Test.YtcbodpcekjngbaaGreatSignW
import Derived.Test.YtcbodpcekjngbaaGreatSortFW
import Derived.Test.YtcbodpcekjngbaaGreatWkX
import Derived.Laws.MakeOwn
import Derived.Test.YtcbodpcekjngbaaGreatDelX
import Derived.Test.YtcbodpcekjngbaaGreatRollX
import Derived.Deep.LoopGhost
import Derived.Test.YtcbodpcekjngbaaGreatBytesW
import Derived.Test.YtcbodpcekjngbaaGreatMakeDW
import Derived.Test.YtcbodpcekjngbaaGreatRefRightW
import Derived.Test.YtcbodpcekjngbaaGreatRightW
/- The walk of the document's Find. -/
set_option linter.unusedVariables false
namespace Go.Proofs.YtcbodpcekjngbaaGreat
open Go.RowKit

/-- The blocks of a weak sum, rising. -/
def findZ (ws : List Int) (N : Nat) (weak : Int) : List Nat := (List.range N).filter (fun i => decide (wOf ws i = weak))
theorem findZ_len (ws : List Int) (N : Nat) (weak : Int) : (findZ ws N weak).length ≤ N := by
  have := List.length_filter_le (fun i => decide (wOf ws i = weak)) (List.range N)
  rw [List.length_range] at this
  exact this
/-- The document's Find. -/
theorem findZ_yes {ws : List Int} {weak : Int} {k : Nat} (h : wOf ws k = weak) : findZ ws (k + 1) weak = findZ ws k weak ++ [k] := by
  unfold findZ; rw [List.range_succ, List.filter_append, List.filter_cons, if_pos (by simpa using h), List.filter_nil]
theorem findZ_no {ws : List Int} {weak : Int} {k : Nat} (h : wOf ws k ≠ weak) : findZ ws (k + 1) weak = findZ ws k weak := by
  unfold findZ; rw [List.range_succ, List.filter_append, List.filter_cons, if_neg (by simpa using h), List.filter_nil, List.append_nil]

set_option maxRecDepth 100000 in
set_option maxHeartbeats 1000000 in
theorem refTabFind_any (B M : Nat) (ws : List Int) (vw vs : Value) (N1 : Nat → Prop) (weak : Int) (w : World) (h1 : Row (Value.int .i64) N1 w vw ws) (hs : ∃ a m c, vs = .slice a m c) (hN : M / B ≤ ws.length) (hl : ws.length ≤ 1000000) (hB : 16 ≤ B) (hB2 : B ≤ 1024) (hM : M ≤ 524288) :
    Calls Tryz.prog 64 #[sigV B M vw vs, .int .i64 weak] w fun e w' => ∃ v, e = .returned v ∧ OwnL encN w' w.heap.size 3 v (findZ ws (M / B) weak) ∧ Below w.heap.size w w' := by
  obtain ⟨a2, m2, k2, rfl⟩ := hs
  obtain ⟨a1, m1, k1, rfl⟩ := h1.slice
  have R0 := Lib.hid (h1.keep (below_self_alloc w (sigC B M (.slice a1 m1 k1) (.slice a2 m2 k2))))
  have B0 := Lib.hid (below_self_alloc w (sigC B M (.slice a1 m1 k1) (.slice a2 m2 k2)))
  have G0 := Lib.hid (heap_alloc_new w (sigC B M (.slice a1 m1 k1) (.slice a2 m2 k2)))
  obtain ⟨N, hNN⟩ : ∃ N, N = M / B := ⟨_, rfl⟩
  have E : (M : Int) / (B : Int) = (N : Int) := by rw [hNN]; rfl
  have hb0 : ((B : Int) == 0) = false := by simp; omega
  rw [← hNN] at hN ⊢
  clear hNN h1
  go_enter Tryz.func64, Tryz.ntmps64
  go_wp2
  have S0 := Lib.hid (show w.heap.size ≤ (w.alloc (sigC B M (.slice a1 m1 k1) (.slice a2 m2 k2))).heap.size by simp)
  generalize w.alloc (.cells #[.int .i64 B, .int .i64 M, .slice a1 m1 k1, .slice a2 m2 k2] 25) = w0 at *
  go_loopw [5, 6] (fun v i wr => ∃ k : Nat, k ≤ N ∧ i = .int .i64 k ∧ OwnL encN wr w0.heap.size 3 v (findZ ws k weak) ∧ Below w0.heap.size w0 wr) (fun _ i _ => N - (intOf i).toNat)
  case atStart => exact ⟨0, by omega, rfl, OwnL.nil _ _ _ _, Below.refl _ _⟩
  case round =>
    obtain ⟨k, hk, rfl, hown, hbel⟩ := hrel
    have Hown := Lib.hid hown; clear hown
    have Hbel := Lib.hid hbel; clear hbel
    have g1 := old_of Hbel.out G0.out
    have c0 := sig_c0 g1
    have c1 := sig_c1 g1
    have c2 := sig_c2 g1
    clear g1
    by_cases hlt : k < N
    · have i1 : (k : Int) < (N : Int) := by omega
      obtain ⟨g, o, c, he, x1⟩ := (R0.out.keep Hbel.out).at (show k < ws.length by omega)
      injection he with e1 e2 e3
      subst e1; subst e2; subst e3
      have i2 : (0 : Int) ≤ (k : Int) := by omega
      have i3 : (k : Int) < (ws.length : Int) := by omega
      have LEN := findZ_len ws k weak
      have hwb := Hbel.out.size
      have hS0 := S0.out
      have HWO := Lib.hid (wOf_get (show k < ws.length by omega))
      obtain ⟨wo, rfl⟩ : ∃ wo : World, wo = wr := ⟨_, rfl⟩
      by_cases heq : wOf ws k = weak
      · have Y2 := Lib.hid (findZ_yes heq)
        rw [HWO.out] at heq
        rw [heq] at x1
        have q1 : (weak == weak) = true := by simp
        clear heq HWO
        go_wp2_with (at_builtin; refine append_elem (enc := encN) (y := k) rfl _ _ 22 3 (.int .i64 0) 8 (by rfl) Tryz.underlying22 info_i64 rfl w0.heap.size _ _ rfl (by rfl) Hown.out (by rfl) (by omega) (by unfold maxLen; omega) (by omega) ?_; intro v' w3 hown3 hb3 hk3)
        have Hown3 := Lib.hid hown3; clear hown3
        have HB3 := Lib.hid (Hbel.out.trans hb3)
        go_wp2
        go_roundw
        case rel => exact ⟨k + 1, by omega, by go_num, by rw [Y2.out]; exact Hown3.out, HB3.out⟩
        case measure => simp [intOf]; omega
      · have Y2 := Lib.hid (findZ_no heq)
        rw [HWO.out] at heq
        have q1 : (ws[k] == weak) = false := by simpa using heq
        clear heq HWO
        generalize ws[k] = u at *
        go_wp2
        go_roundw
        case rel => exact ⟨k + 1, by omega, by go_num, by rw [Y2.out]; exact Hown.out, Hbel.out⟩
        case measure => simp [intOf]; omega
    · obtain rfl : k = N := by omega
      have i1 : ¬ (k : Int) < (k : Int) := by omega
      go_wp2
      go_ret
      exact ⟨_, rfl, Hown.out.mono S0.out, B0.out.trans (Hbel.out.mono B0.out.size)⟩
end Go.Proofs.YtcbodpcekjngbaaGreat
/- Walks of the document's Match and Tail, by any book of the document. -/
set_option linter.unusedVariables false
namespace Go.Proofs.YtcbodpcekjngbaaGreat
open Go.RowKit

/-- A world that a predicate holds of. -/
structure RchOf (Q : World → Prop) where
  w : World
  h : Q w
theorem wp_region_rch {P : Program} {id : Nat} {R : Exit → Act → World → Prop} {a : Act} {w0 : World} {l : List Oper} (Q : World → Prop) [Inhabited (RchOf Q)] (hm : P.follows .mixedOrders = true) (hB : Region.lexB .any l.toArray = true) (hq : Q w0.drew)
    (h : wpQuiet P l.toArray (fun w' => ∃ p : RchOf Q, w' = p.w) (fun a' => ∀ w', (∃ p : RchOf Q, w' = p.w) → R .normal a' w') l a) : (Code.region id l.toArray true).wp P R a w0 :=
  wp_region_quiet (C := fun w' => ∃ p : RchOf Q, w' = p.w) hm hB ⟨⟨w0.drew, hq⟩, rfl⟩ (by simpa using h)
theorem rch_calls {P : Program} {f : FuncId} {args : Array Value} {Q : World → Prop} {p : RchOf Q} {v : Value} (h : Calls P f args p.w fun e w' => e = .returned v ∧ Q w') :
    Calls P f args p.w fun e w'' => e = .returned v ∧ ∃ p' : RchOf Q, w'' = p'.w :=
  h.mono fun _ w' ⟨he, hb⟩ => ⟨he, ⟨w', hb⟩, rfl⟩

/-- A book of the document that marks one text, from world w0 and state s on. -/
structure Rch {σ : Type} (At : World → σ → Prop) (F : σ → Nat → Prop) (nq : σ → Txt → σ → Prop) (w0 : World) (s : σ) (t : Txt) (w' : World) (s' : σ) : Prop where
  at' : At w' s'
  nx : nq s t s'
  kept : Kept (F s) w0 w'
  new : ∀ k, F s' k → F s k ∨ w0.heap.size ≤ k
structure BookT (qp : Value) {σ : Type} (At : World → σ → Prop) (F : σ → Nat → Prop) (nq : σ → Txt → σ → Prop) (mk : σ → Txt → Txt) (ok : Nat → σ → Prop) : Prop where
  mark : ∀ (w0 : World) (s : σ) (t : Txt) (w' : World) (s' : σ), Rch At F nq w0 s t w' s' → ok 1 s → t.length ≤ 1024 → Calls Tryz.prog 43 #[qp, .string ⟨t.toArray⟩] w' fun e w'' => e = .returned (.string ⟨(mk s t).toArray⟩) ∧ ∃ s'', Rch At F nq w0 s t w'' s''
  refl : ∀ s t, nq s t s
  lt : ∀ (w : World) (s : σ) (k : Nat), At w s → F s k → k < w.heap.size
  kept : ∀ (w w' : World) (s : σ) (M : Nat → Prop), At w s → Kept M w w' → (∀ k, F s k → ¬ M k) → At w' s
section
variable {qp : Value} {σ : Type} {At : World → σ → Prop} {F : σ → Nat → Prop} {nq : σ → Txt → σ → Prop} {mk : σ → Txt → Txt} {ok : Nat → σ → Prop}
theorem BookT.start (I : BookT qp At F nq mk ok) {w : World} {s : σ} (h : At w s) (t : Txt) : Rch At F nq w s t w s := ⟨h, I.refl s t, Kept.refl _ _, fun k h => .inl h⟩
theorem BookT.grow (I : BookT qp At F nq mk ok) {w w1 : World} {s : σ} (h : At w s) (hb : Below w.heap.size w w1) : At w1 s := I.kept _ _ _ (fun _ => False) h (Kept.new hb _) (fun _ _ => id)
theorem Rch.grow (I : BookT qp At F nq mk ok) {w0 w w1 : World} {s s' : σ} {t : Txt} (h : Rch At F nq w0 s t w s') (hb : Below w.heap.size w w1) : Rch At F nq w0 s t w1 s' :=
  ⟨I.grow h.at' hb, h.nx, h.kept.trans (Kept.new hb _), h.new⟩
theorem Rch.later {w0 w1 w : World} {s s' : σ} {t : Txt} (h : Rch At F nq w1 s t w s') (hb : Below w0.heap.size w0 w1) : Rch At F nq w0 s t w s' :=
  ⟨h.at', h.nx, (Kept.new hb _).trans h.kept, fun k hk => (h.new k hk).imp id (fun h => Nat.le_trans hb.size h)⟩
theorem Rch.cell {w0 w : World} {s s' : σ} {t : Txt} (h : Rch At F nq w0 s t w s') {b o : Nat} {v : Value} (hc : w0.cell? ⟨b, o, none⟩ = some v) (hn : ¬ F s b) : w.cell? ⟨b, o, none⟩ = some v := by
  have hlt := World.block_lt_of_cell? w0 _ hc
  have := h.kept.block b hlt hn
  unfold World.cell? at hc ⊢
  simp only at hc ⊢
  rw [this]; exact hc
end

theorem fst_yes {is : Txt → Bool} {ms : List Txt} {l : List Nat} {j : Nat} (h : j < l.length) (hi : is (mOf ms l[j]) = true) : fstS is ms (l.drop j) = (l[j] : Nat) := by
  rw [List.drop_eq_getElem_cons h]
  exact fstS_yes (l := l[j] :: l.drop (j + 1)) (Nat.succ_pos _) hi
theorem fst_no {is : Txt → Bool} {ms : List Txt} {l : List Nat} {j : Nat} (h : j < l.length) (hi : is (mOf ms l[j]) = false) : fstS is ms (l.drop j) = fstS is ms (l.drop (j + 1)) := by
  rw [List.drop_eq_getElem_cons h]
  unfold fstS
  rw [List.find?_cons_of_neg (by rw [hi]; simp)]
def lastV : Value → Nat
  | .int _ n => (n + 1).toNat
  | _ => 0
set_option maxRecDepth 100000 in
set_option maxHeartbeats 4000000 in
theorem refMatch_any {qp : Value} {σ : Type} {At : World → σ → Prop} {F : σ → Nat → Prop} {nq : σ → Txt → σ → Prop} {mk : σ → Txt → Txt} {ok : Nat → σ → Prop} (I : BookT qp At F nq mk ok)
    (B M : Nat) (ws : List Int) (ms : List Txt) (vw vs : Value) (N1 N2 : Nat → Prop) (t : Txt) (weak wanted : Int) (s : σ) (is : Txt → Bool) (w : World) (hat : At w s) (hok : ok 1 s) (ht : t.length ≤ 1024)
    (h1 : Row (Value.int .i64) N1 w vw ws) (h2 : Row encT N2 w vs ms) (hF : ∀ k, N2 k → ¬ F s k) (hN : M / B ≤ ws.length) (hNM : M / B ≤ ms.length) (hl : ws.length ≤ 1000000) (hl2 : ms.length ≤ 1000000) (hB : 16 ≤ B) (hB2 : B ≤ 1024) (hM : M ≤ 524288)
    (his : ∀ i, i < ms.length → decide (mOf ms i = mk s t) = is (mOf ms i)) :
    Calls Tryz.prog 24 #[qp, sigV B M vw vs, .int .i64 weak, .string ⟨t.toArray⟩, .int .i64 wanted] w fun e w' => e = .returned (.int .i64 (matchP (pOf is ws ms weak) (M / B) B t wanted)) ∧ ∃ s', Rch At F nq w s t w' s' := by
  have HI := Lib.hid I; clear I
  have TL := Lib.hid (show (⟨t.toArray⟩ : ByteArray).size = t.length from rfl)
  have HR0 := Lib.hid (show matchP (pOf is ws ms weak) (M / B) B t wanted = if t.length ≠ B then -1 else if 0 ≤ wanted ∧ wanted < (M / B : Nat) ∧ pOf is ws ms weak wanted.toNat = true then wanted else lowF (pOf is ws ms weak) 0 (M / B) from rfl)
  generalize matchP (pOf is ws ms weak) (M / B) B t wanted = res at *
  obtain ⟨a2, c2, rfl, hc2⟩ := h2
  obtain ⟨a1, m1, k1, rfl⟩ := h1.slice
  have hb0 := below_self_alloc w (sigC B M (.slice a1 m1 k1) (.slice a2 ms.length c2))
  have HB0 := Lib.hid hb0
  have HS0 := Lib.hid (show (w.alloc (sigC B M (.slice a1 m1 k1) (.slice a2 ms.length c2))).heap.size = w.heap.size + 1 by simp)
  have HG0 := Lib.hid (heap_alloc_new w (sigC B M (.slice a1 m1 k1) (.slice a2 ms.length c2)))
  have HC2 := Lib.hid hc2
  have HAT0 := Lib.hid (HI.out.grow hat hb0)
  have HFL := Lib.hid (fun k h => HI.out.lt w s k hat h)
  have FD := Lib.hid (refTabFind_any B M ws (.slice a1 m1 k1) (.slice a2 ms.length c2) N1 weak _ (h1.keep hb0) ⟨_, _, _, rfl⟩ hN hl hB hB2 hM)
  have HOK := Lib.hid hok
  have HFN := Lib.hid hF
  have HIS := Lib.hid his
  have d0 := sig_c0 HG0.out
  clear hb0 hc2 h1 hat hok hF his
  by_cases hlen : t.length = B
  · have q0 : ((t.length : Int) != (B : Int)) = false := by simp [hlen]
    have HR := Lib.hid (show res = if 0 ≤ wanted ∧ wanted < (M / B : Nat) ∧ pOf is ws ms weak wanted.toNat = true then wanted else lowF (pOf is ws ms weak) 0 (M / B) by rw [HR0.out, if_neg (fun c => c hlen)])
    clear HR0 hlen
    have d1 := sig_c1 HG0.out
    have d2 := sig_c2 HG0.out
    have d3 := sig_c3 HG0.out
    go_enter Tryz.func24, Tryz.ntmps24
    go_wp2_with fail
    generalize w.alloc (.cells #[.int .i64 B, .int .i64 M, .slice a1 m1 k1, .slice a2 ms.length c2] 25) = w0 at *
    refine FD.out.mono ?_
    rintro e w1 ⟨v, rfl, ho, hb1⟩
    have HAT1 := Lib.hid (HI.out.grow HAT0.out hb1)
    have HG1 := Lib.hid (old_of hb1 HG0.out)
    have HB1 := Lib.hid (HB0.out.trans (hb1.mono HB0.out.size))
    have hsz1 : w0.heap.size ≤ w1.heap.size := hb1.size
    have HSZ := Lib.hid (show w.heap.size < w1.heap.size by have := HS0.out; omega)
    obtain ⟨N, hNN⟩ : ∃ N, N = M / B := ⟨_, rfl⟩
    rw [← hNN] at HR ho
    obtain ⟨fl, hfl⟩ : ∃ fl, fl = findZ ws N weak := ⟨_, rfl⟩
    rw [← hfl] at ho
    have HFD := Lib.hid hfl
    have hfll : fl.length ≤ 1000000 := by rw [hfl]; have := findZ_len ws N weak; omega
    have HFI := Lib.hid (show ∀ k (h : k < fl.length), fl[k] < N ∧ wOf ws fl[k] = weak by
      intro k h
      have : fl[k] ∈ findZ ws N weak := by rw [← hfl]; exact List.getElem_mem h
      unfold findZ at this
      rw [List.mem_filter, List.mem_range, decide_eq_true_eq] at this
      exact this)
    have hNM' : N ≤ ms.length := by omega
    obtain ⟨af, cf, rfl, hcf⟩ := ho.row
    have HCF := Lib.hid (show ∀ i (h : i < fl.length), ∃ g o, af = some ⟨g, o, none⟩ ∧ w0.heap.size ≤ g ∧ w1.cell? ⟨g, o + i, none⟩ = some (encN fl[i]) from hcf)
    clear hfl hNN hb1 ho hcf d0 d1 d2 d3 HAT0 HG0 FD
    have R0 := Lib.hid (HI.out.start HAT1.out t)
    have HMK := Lib.hid (fun w' s' (hr : Rch At F nq w1 s t w' s') => HI.out.mark w1 s t w' s' hr HOK.out ht)
    obtain ⟨mt, hmt⟩ : ∃ mt, mt = mk s t := ⟨_, rfl⟩
    rw [← hmt] at HMK HIS
    clear hmt
    have HMP := Lib.hid (show ∀ p : RchOf (fun w' => ∃ s'', Rch At F nq w1 s t w' s''), Calls Tryz.prog 43 #[qp, .string ⟨t.toArray⟩] p.w fun e w'' => e = .returned (.string ⟨mt.toArray⟩) ∧ ∃ s'', Rch At F nq w1 s t w'' s'' from fun p => by
      obtain ⟨s'', h⟩ := p.h
      exact HMK.out _ s'' h)
    have HFX := Lib.hid (show ∀ g, w0.heap.size ≤ g → ¬ F s g from fun g hg h => by have := HFL.out g h; have := HS0.out; omega)
    have HFW := Lib.hid (show ¬ F s w.heap.size from fun h => by have := HFL.out _ h; omega)
    go_wp2_with fail
    go_loopw [12, 13] (fun f i wr => ∃ (k : Nat) (ii : Int) (s' : σ), k ≤ fl.length ∧ Hid (ii = (k : Int) - 1) ∧ -1 ≤ ii ∧ ii < 1000000 ∧ i = .int .i64 ii ∧ f = .int .i64 (fstS is ms (fl.drop k)) ∧ Hid (∀ j (h : j < fl.length), k ≤ j → ¬ (is (mOf ms fl[j]) = true ∧ (fl[j] : Int) = wanted)) ∧ Rch At F nq w1 s t wr s') (fun _ i _ => lastV i)
    case atStart =>
      exact ⟨fl.length, (fl.length : Int) - 1, s, Nat.le_refl _, Lib.hid rfl, by omega, by omega, rfl, by rw [List.drop_length]; rfl, Lib.hid (fun j h c => by omega), R0.out⟩
    case round =>
      clear R0
      obtain ⟨k, ii, s', hk, hii, hi1, hi2, rfl, rfl, hno, hr⟩ := hrel
      have HR' := Lib.hid hr; clear hr
      rcases Nat.eq_zero_or_pos k with hk0 | hkp
      · subst hk0
        have i1 : ¬ (0 : Int) ≤ ii := by have := hii.out; omega
        rw [List.drop_zero]
        have HRR := Lib.hid (show res = fstS is ms fl by
          rw [HR.out, if_neg]
          · rw [HFD.out]; exact (fst_find is ws ms N weak).symm
          · rintro ⟨w1', w2', w3'⟩
            unfold pOf at w3'
            rw [Bool.and_eq_true, decide_eq_true_eq] at w3'
            have hm : wanted.toNat ∈ fl := by
              rw [HFD.out]; unfold findZ
              rw [List.mem_filter, List.mem_range, decide_eq_true_eq]
              exact ⟨by omega, w3'.1⟩
            obtain ⟨j, hj, hje⟩ := List.getElem_of_mem hm
            exact hno.out j hj (Nat.zero_le _) ⟨by rw [hje]; exact w3'.2, by rw [hje]; omega⟩)
        generalize fstS is ms fl = fs at *
        go_wp2_with fail
        go_ret
        exact ⟨by rw [HRR.out]; rfl, s', HR'.out.later HB1.out⟩
      · obtain ⟨j, rfl⟩ : ∃ j, k = j + 1 := ⟨k - 1, by omega⟩
        have hii' : ii = (j : Int) := by have := hii.out; omega
        subst hii'
        have hj : j < fl.length := by omega
        obtain ⟨hf1, hf2⟩ := HFI.out j hj
        obtain ⟨gf, of, hae, hgf, xf⟩ := HCF.out j hj
        subst hae
        have FY := Lib.hid (fun h => fst_yes (is := is) (ms := ms) hj h)
        have FN := Lib.hid (fun h => fst_no (is := is) (ms := ms) hj h)
        have HNO2 := Lib.hid (show ∀ b, is (mOf ms fl[j]) = b → (b = true → (fl[j] : Int) ≠ wanted) → ∀ i (h : i < fl.length), j ≤ i → ¬ (is (mOf ms fl[i]) = true ∧ (fl[i] : Int) = wanted) from fun b hb hbw i hi hji hc => by
          rcases Nat.lt_or_ge j i with c | c
          · exact hno.out i hi (by omega) hc
          · have : i = j := by omega
            subst this
            exact hbw (by rw [← hb]; exact hc.1) hc.2)
        generalize fl[j] = f at *
        have hfm : f < ms.length := by omega
        obtain ⟨gm, om, hae2, hgm, xm⟩ := HC2.out f hfm
        subst hae2
        rw [← mOf_get hfm] at xm
        have HISF := Lib.hid (HIS.out f hfm)
        have hgmF := HFN.out gm hgm
        have xm1 := (HB1.out.cell (World.block_lt_of_cell? w _ xm)).trans xm
        have x3 := sig_c3 HG1.out
        have HPX : Hid (∀ p : RchOf (fun w' => ∃ s'', Rch At F nq w1 s t w' s''), p.w.cell? ⟨gf, of + j, none⟩ = some (.int .i64 f) ∧ p.w.cell? ⟨gm, om + f, none⟩ = some (.string ⟨(mOf ms f).toArray⟩) ∧ p.w.cell? ⟨w.heap.size, 3, none⟩ = some (.slice (some ⟨gm, om, none⟩) ms.length c2)) := Lib.hid fun p => by
          obtain ⟨s'', h⟩ := p.h
          exact ⟨h.cell xf (HFX.out gf hgf), h.cell xm1 hgmF, h.cell x3 HFW.out⟩
        have hWIT : (fun b => decide (wOf ws f = weak) && b) = (fun b => b) := by funext b; rw [hf2, decide_eq_true rfl, Bool.true_and]
        have HPO := Lib.hid (show pOf is ws ms weak f = is (mOf ms f) by unfold pOf; rw [hf2, decide_eq_true rfl, Bool.true_and])
        generalize hmo : mOf ms f = mo at *
        clear hWIT xf xm xm1 x3 hgmF hgm hf2
        have i1 : (0 : Int) ≤ (j : Int) := by omega
        have i2 : (j : Int) < (fl.length : Int) := by omega
        have i3 : (0 : Int) ≤ (f : Int) := by omega
        have i4 : (f : Int) < (ms.length : Int) := by omega
        go_wp2_with fail
        haveI : Inhabited (RchOf (fun w' => ∃ s'', Rch At F nq w1 s t w' s'')) := ⟨⟨wr, s', HR'.out⟩⟩
        have C1 := fun p => (HPX.out p).1
        have C2 := fun p => (HPX.out p).2.1
        have C3 := fun p => (HPX.out p).2.2
        cases his : is mo with
        | true =>
          have hmm : mo = mt := by have := HISF.out; rw [his] at this; exact of_decide_eq_true this
          have qm : (mo == mt) = true := by simp [hmm]
          have HMM := Lib.hid hmm
          clear hmm
          refine wp_region_rch (fun w' => ∃ s'', Rch At F nq w1 s t w' s'') (by kernel_rfl) (by kernel_rfl) ⟨s', HR'.out.grow HI.out (Below_drew (Below.refl _ _))⟩ ?_
          repeat (go_big_quiet_step ((go_at_call 43; exact rch_calls (HMP.out _))))
          refine wpQuiet_nil ?_
          rintro w6 ⟨⟨w6b, s6, hr6⟩, hw6⟩
          have hw6b : w6 = w6b := hw6
          clear hw6
          subst hw6b
          have HR6 := Lib.hid hr6
          have xf6 : w6.cell? ⟨gf, of + j, none⟩ = some (.int .i64 f) := (HPX.out ⟨w6, s6, hr6⟩).1
          clear C1 C2 C3 hr6
          by_cases hw : (f : Int) = wanted
          · have qw : ((f : Int) == wanted) = true := by simp [hw]
            have HRR := Lib.hid (show res = wanted by
              rw [HR.out, if_pos]
              refine ⟨by omega, by rw [← hw]; omega, ?_⟩
              rw [← hw, Int.toNat_natCast, HPO.out, his])
            clear his hw hno HNO2 FY FN
            go_wp2_with fail
            go_ret
            exact ⟨by rw [HRR.out]; rfl, s6, HR6.out.later HB1.out⟩
          · have qw : ((f : Int) == wanted) = false := by simp [hw]
            have FY2 := Lib.hid (FY.out his)
            have HNO3 := Lib.hid (HNO2.out true his (fun _ => hw))
            clear his hw hno HNO2 FY FN
            have WJ : IntKind.i64.wrap ((j : Int) - 1) = (j : Int) - 1 := by rw [IntKind.wrap_i64]; omega
            go_wp2_with fail
            go_roundw
            case rel => exact ⟨j, (j : Int) - 1, s6, by omega, Lib.hid rfl, by omega, by omega, rfl, by rw [FY2.out], HNO3, HR6.out⟩
            case measure => first | (simp [lastV]; done) | (simp [lastV]; omega)
        | false =>
          have hmm : ¬ mo = mt := by have := HISF.out; rw [his] at this; exact of_decide_eq_false this
          have qm : (mo == mt) = false := by simp [hmm]
          have FN2 := Lib.hid (FN.out his)
          have HNO3 := Lib.hid (HNO2.out false his (fun h => by cases h))
          clear hmm his hno HNO2 FY FN
          refine wp_region_rch (fun w' => ∃ s'', Rch At F nq w1 s t w' s'') (by kernel_rfl) (by kernel_rfl) ⟨s', HR'.out.grow HI.out (Below_drew (Below.refl _ _))⟩ ?_
          repeat (go_big_quiet_step ((go_at_call 43; exact rch_calls (HMP.out _))))
          refine wpQuiet_nil ?_
          rintro w6 ⟨⟨w6b, s6, hr6⟩, hw6⟩
          have hw6b : w6 = w6b := hw6
          clear hw6
          subst hw6b
          have HR6 := Lib.hid hr6
          clear C1 C2 C3 hr6
          go_wp2_with fail
          go_roundw
          case rel => exact ⟨j, (j : Int) - 1, s6, by omega, Lib.hid rfl, by omega, by omega, rfl, by rw [FN2.out], HNO3, HR6.out⟩
          case measure => first | (simp [lastV]; done) | (simp [lastV]; omega)
  · have q0 : ((t.length : Int) != (B : Int)) = true := by simp; omega
    have HRR := Lib.hid (show res = -1 by rw [HR0.out, if_pos hlen])
    have HST := Lib.hid (HI.out.start HAT0.out t)
    clear HR0 hlen
    go_enter Tryz.func24, Tryz.ntmps24
    go_wp2_with fail
    go_ret
    exact ⟨by rw [HRR.out]; rfl, s, HST.out.later HB0.out⟩
theorem tail_form {is : Txt → Bool} {ws : List Int} {ms : List Txt} {B M : Nat} {t : Txt} (hB : 16 ≤ B) (hlw : ws.length = nBlk M B) :
    (M % B = 0 → tailZ is ws ms (M / B) B M t = false) ∧ (M % B ≠ 0 → ws.length = M / B + 1 ∧ (t.length ≠ M % B → tailZ is ws ms (M / B) B M t = false) ∧ (t.length = M % B → tailZ is ws ms (M / B) B M t = (decide (((wk t : Nat) : Int) = wOf ws (M / B)) && is (mOf ms (M / B))))) := by
  have e1 := Nat.div_add_mod M B
  have hm := Nat.mod_lt M (show 0 < B by omega)
  unfold nBlk at hlw
  unfold tailZ
  generalize hq : M / B = q at *
  generalize M % B = r at *
  have hcm : B * q = q * B := Nat.mul_comm _ _
  have e2 : M + B - 1 = (r + B - 1) + B * q := by omega
  rw [e2, Nat.add_mul_div_left _ _ (show 0 < B by omega)] at hlw
  constructor
  · intro h0
    rw [h0, Nat.div_eq_of_lt (show 0 + B - 1 < B by omega)] at hlw
    rw [decide_eq_false (show ¬ q ≠ ws.length by omega)]; rfl
  · intro h0
    rw [show r + B - 1 = (r - 1) + B by omega, Nat.add_div_right _ (by omega), Nat.div_eq_of_lt (show r - 1 < B by omega)] at hlw
    refine ⟨by omega, fun h => ?_, fun h => ?_⟩
    · rw [decide_eq_false (show ¬ t.length + q * B = M by omega)]; simp
    · rw [decide_eq_true (show t.length + q * B = M by omega), decide_eq_true (show q ≠ ws.length by omega)]; simp

set_option maxRecDepth 100000 in
set_option maxHeartbeats 4000000 in
theorem refTail_any {qp : Value} {σ : Type} {At : World → σ → Prop} {F : σ → Nat → Prop} {nq : σ → Txt → σ → Prop} {mk : σ → Txt → Txt} {ok : Nat → σ → Prop} (I : BookT qp At F nq mk ok)
    (B M : Nat) (ws : List Int) (ms : List Txt) (vw vs : Value) (N1 N2 : Nat → Prop) (t : Txt) (s : σ) (is : Txt → Bool) (w : World) (hat : At w s) (hok : ok 1 s) (ht : t.length ≤ 1024)
    (h1 : Row (Value.int .i64) N1 w vw ws) (h2 : Row encT N2 w vs ms) (hF1 : ∀ k, N1 k → ¬ F s k) (hF : ∀ k, N2 k → ¬ F s k) (hlw : ws.length = nBlk M B) (hlm : ms.length = nBlk M B) (hl : ws.length ≤ 1000000) (hB : 16 ≤ B) (hB2 : B ≤ 1024) (hM : M ≤ 524288)
    (his : ∀ i, i < ms.length → decide (mOf ms i = mk s t) = is (mOf ms i)) :
    Calls Tryz.prog 28 #[qp, sigV B M vw vs, .string ⟨t.toArray⟩] w fun e w' => e = .returned (.bool (tailZ is ws ms (M / B) B M t)) ∧ ∃ s', Rch At F nq w s t w' s' := by
  have HI := Lib.hid I; clear I
  have TL := Lib.hid (show (⟨t.toArray⟩ : ByteArray).size = t.length from rfl)
  obtain ⟨hf0, hf1⟩ := tail_form (is := is) (ws := ws) (ms := ms) (t := t) hB hlw
  have HF0 := Lib.hid hf0
  have HF1 := Lib.hid hf1
  have HLW := Lib.hid hlw
  have HLM := Lib.hid hlm
  clear hf0 hf1 hlw hlm
  generalize tailZ is ws ms (M / B) B M t = res at *
  obtain ⟨a2, c2, rfl, hc2⟩ := h2
  obtain ⟨a1, c1, rfl, hc1⟩ := h1
  have hb0 := below_self_alloc w (sigC B M (.slice a1 ws.length c1) (.slice a2 ms.length c2))
  have HB0 := Lib.hid hb0
  have HG0 := Lib.hid (heap_alloc_new w (sigC B M (.slice a1 ws.length c1) (.slice a2 ms.length c2)))
  have HC1 := Lib.hid hc1
  have HC2 := Lib.hid hc2
  have HAT0 := Lib.hid (HI.out.grow hat hb0)
  have HFW := Lib.hid (show ¬ F s w.heap.size from fun h => by have := HI.out.lt w s _ hat h; omega)
  have HOK := Lib.hid hok
  have HFN := Lib.hid hF
  have HFN1 := Lib.hid hF1
  have HIS := Lib.hid his
  have d0 := sig_c0 HG0.out
  have d1 := sig_c1 HG0.out
  have d2 := sig_c2 HG0.out
  have d3 := sig_c3 HG0.out
  obtain ⟨N, hNN⟩ : ∃ N, N = M / B := ⟨_, rfl⟩
  obtain ⟨r, hr⟩ : ∃ r, r = M % B := ⟨_, rfl⟩
  have TM : Int.tmod (M : Int) (B : Int) = (r : Int) := by rw [hr]; rfl
  have hrB : r < B := by rw [hr]; exact Nat.mod_lt _ (by omega)
  have qb0 : ((B : Int) == 0) = false := by simp; omega
  rw [← hNN, ← hr] at HF1
  rw [← hr] at HF0
  clear hb0 hc1 hc2 hat hok hF hF1 his hNN hr
  by_cases hr0 : r = 0
  · have HRR := Lib.hid (HF0.out hr0)
    have HST := Lib.hid (HI.out.start HAT0.out t)
    have qr : ((r : Int) == 0) = true := by simp [hr0]
    clear HF0 HF1 hr0
    go_enter Tryz.func28, Tryz.ntmps28
    go_wp2_with fail
    go_ret
    exact ⟨by rw [HRR.out]; rfl, s, HST.out.later HB0.out⟩
  · have qr : ((r : Int) == 0) = false := by simp [hr0]
    obtain ⟨hwl, hno, hyes⟩ := HF1.out hr0
    have HYES := Lib.hid hyes
    have HWL := Lib.hid hwl
    clear HF0 HF1 hr0 hyes hwl
    by_cases hlen : t.length = r
    · have ql : ((t.length : Int) != (r : Int)) = false := by simp [hlen]
      have HY := Lib.hid (HYES.out hlen)
      clear hno hlen HYES
      have hNw : N < ws.length := by have := HWL.out; omega
      have hNm : N < ms.length := by rw [HLM.out, ← HLW.out]; exact hNw
      obtain ⟨gw, ow, hae, hgw, xw⟩ := HC1.out N hNw
      obtain ⟨gm, om, hae2, hgm, xm⟩ := HC2.out N hNm
      subst hae; subst hae2
      rw [← wOf_get hNw] at xw
      rw [← mOf_get hNm] at xm
      have HISN := Lib.hid (HIS.out N hNm)
      have xw0 := (HB0.out.cell (World.block_lt_of_cell? w _ xw)).trans xw
      have xm0 := (HB0.out.cell (World.block_lt_of_cell? w _ xm)).trans xm
      obtain ⟨mt, hmt⟩ : ∃ mt, mt = mk s t := ⟨_, rfl⟩
      rw [← hmt] at HISN
      obtain ⟨x, hx⟩ : ∃ x, x = wk t := ⟨_, rfl⟩
      have SM := fun w' => Lib.hid (wrefSum_any t w' (by omega))
      rw [← hx] at SM HY
      have hgwF := HFN1.out gw hgw
      have hgmF := HFN.out gm hgm
      have R0 := Lib.hid (HI.out.start HAT0.out t)
      generalize hw0 : w.alloc (.cells #[.int .i64 B, .int .i64 M, .slice (some ⟨gw, ow, none⟩) ws.length c1, .slice (some ⟨gm, om, none⟩) ms.length c2] 25) = w0 at *
      have HPX : Hid (∀ p : RchOf (fun w' => ∃ s'', Rch At F nq w0 s t w' s''), p.w.cell? ⟨gw, ow + N, none⟩ = some (.int .i64 (wOf ws N)) ∧ p.w.cell? ⟨gm, om + N, none⟩ = some (.string ⟨(mOf ms N).toArray⟩) ∧ p.w.cell? ⟨w.heap.size, 2, none⟩ = some (.slice (some ⟨gw, ow, none⟩) ws.length c1) ∧ p.w.cell? ⟨w.heap.size, 3, none⟩ = some (.slice (some ⟨gm, om, none⟩) ms.length c2)) := Lib.hid fun p => by
        obtain ⟨s'', h⟩ := p.h
        exact ⟨h.cell xw0 hgwF, h.cell xm0 hgmF, h.cell d2 HFW.out, h.cell d3 HFW.out⟩
      have HMP := Lib.hid (show ∀ p : RchOf (fun w' => ∃ s'', Rch At F nq w0 s t w' s''), Calls Tryz.prog 43 #[qp, .string ⟨t.toArray⟩] p.w fun e w'' => e = .returned (.string ⟨mt.toArray⟩) ∧ ∃ s'', Rch At F nq w0 s t w'' s'' from fun p => by
        obtain ⟨s'', h⟩ := p.h
        rw [hmt]
        exact HI.out.mark w0 s t _ s'' h HOK.out ht)
      have HSP := Lib.hid (show ∀ p : RchOf (fun w' => ∃ s'', Rch At F nq w0 s t w' s''), Calls Tryz.prog 25 #[.string ⟨t.toArray⟩] p.w fun e w'' => e = .returned (.int .i64 (x : Nat)) ∧ ∃ s'', Rch At F nq w0 s t w'' s'' from fun p => by
        obtain ⟨s'', h⟩ := p.h
        exact (SM p.w).out.mono fun e w'' ⟨h1, h2⟩ => ⟨h1, s'', h2 ▸ h⟩)
      generalize hwv : wOf ws N = wv at *
      generalize hmo : mOf ms N = mo at *
      clear hmt hx xw xm xw0 xm0 hgw hgm hgwF hgmF SM hwv hmo
      have i1 : (0 : Int) ≤ (N : Int) := by omega
      have i2 : (N : Int) < (ws.length : Int) := by omega
      have i3 : (N : Int) < (ms.length : Int) := by omega
      have WN : (ws.length : Int) - 1 = (N : Int) := by have := HWL.out; omega
      haveI : Inhabited (RchOf (fun w' => ∃ s'', Rch At F nq w0 s t w' s'')) := ⟨⟨w0, s, R0.out⟩⟩
      have C1 := fun p => (HPX.out p).1
      have C2 := fun p => (HPX.out p).2.1
      have C3 := fun p => (HPX.out p).2.2.1
      have C4 := fun p => (HPX.out p).2.2.2
      have HCASE := Lib.hid (show (((x : Int) == wv) = true ∧ (mt == mo) = true ∧ res = true) ∨ (((x : Int) == wv) = true ∧ (mt == mo) = false ∧ res = false) ∨ (((x : Int) == wv) = false ∧ res = false) by
        rw [HY.out]
        by_cases hc : (x : Int) = wv
        · rw [decide_eq_true hc, Bool.true_and, ← HISN.out]
          by_cases hm : mo = mt
          · exact .inl ⟨by simp [hc], by simp [hm], decide_eq_true hm⟩
          · exact .inr (.inl ⟨by simp [hc], by simp; exact fun e => hm e.symm, decide_eq_false hm⟩)
        · rw [decide_eq_false hc]; exact .inr (.inr ⟨by simpa using hc, rfl⟩))
      clear HY HISN HIS
      go_enter Tryz.func28, Tryz.ntmps28
      go_wp2_with fail
      clear d0 d1 d2 d3
      rcases HCASE.out with ⟨qx, qm, hres⟩ | ⟨qx, qm, hres⟩ | ⟨qx, hres⟩
      all_goals
        have HRR := Lib.hid hres
        clear hres HCASE
        refine wp_region_rch (fun w' => ∃ s'', Rch At F nq w0 s t w' s'') (by kernel_rfl) (by kernel_rfl) ⟨s, R0.out.grow HI.out (Below_drew (Below.refl _ _))⟩ ?_
        repeat (go_big_quiet_step ((first | (go_at_call 43; exact rch_calls (HMP.out _)) | (go_at_call 25; exact rch_calls (HSP.out _)))))
        refine wpQuiet_nil ?_
        rintro w6 ⟨⟨w6b, s6, hr6⟩, hw6⟩
        have hw6b : w6 = w6b := hw6
        clear hw6
        subst hw6b
        have HR6 := Lib.hid hr6
        clear C1 C2 C3 C4 hr6
        go_wp2_with fail
        go_ret
        exact ⟨by rw [HRR.out]; rfl, s6, HR6.out.later HB0.out⟩
    · have ql : ((t.length : Int) != (r : Int)) = true := by simp; omega
      have HRR := Lib.hid (hno hlen)
      have HST := Lib.hid (HI.out.start HAT0.out t)
      clear hno hlen HYES
      go_enter Tryz.func28, Tryz.ntmps28
      go_wp2_with fail
      go_ret
      exact ⟨by rw [HRR.out]; rfl, s, HST.out.later HB0.out⟩
end Go.Proofs.YtcbodpcekjngbaaGreat
/- Walks of the document's Texts, Copy, Make. -/
set_option linter.unusedVariables false
namespace Go.Proofs.YtcbodpcekjngbaaGreat
open Go.RowKit

theorem gather_short (l : List DSt) (s : Txt) (h0 : 0 < s.length) (h : s.length ≤ 4096) : gatherS l s = l ++ [txtSt s] := by
  rw [gather_cons l s h0, List.drop_of_length_le h, gather_nil, List.take_of_length_le h]
set_option maxRecDepth 100000 in
set_option maxHeartbeats 1000000 in
theorem refTexts_any (base n : Nat) (v : Value) (l : List DSt) (s : Txt) (w : World) (h : OwnS w base v l) (hok : OkL n l) (hn : n + s.length ≤ 1100000) (hb : base ≤ w.heap.size) :
    Calls Tryz.prog 26 #[v, .string ⟨s.toArray⟩] w fun e w' => ∃ v', e = .returned v' ∧ OwnS w' base v' (gatherS l s) ∧ TurnS base w v w' v' := by
  have H0 := Lib.hid h; clear h
  have hlen := hok.len
  have HB0 := hb
  go_enter Tryz.func26, Tryz.ntmps26
  go_wp2_with fail
  go_loopw [0, 1] (fun a b wr => ∃ (l1 : List DSt) (r : Txt), b = .string ⟨r.toArray⟩ ∧ OwnS wr base a l1 ∧ Hid (gatherS l1 r = gatherS l s) ∧ l1.length + r.length ≤ 1100000 ∧ TurnS base w v wr a) (fun _ b _ => lenT b)
  case atStart => exact ⟨l, s, rfl, H0.out, Lib.hid rfl, by omega, TurnS.refl _ _ _⟩
  case round =>
    obtain ⟨l1, r, rfl, ho, HG, hll, htn⟩ := hrel
    have HO := Lib.hid ho; clear ho
    have RL := Lib.hid (show (⟨r.toArray⟩ : ByteArray).size = r.length from rfl)
    have hll1 : l1.length ≤ 2000000 := by omega
    have hsz : base ≤ wr.heap.size := by have := htn.kept.size; omega
    have HTN := Lib.hid htn; clear htn
    by_cases hlt : 4096 < r.length
    · have i1 : (4096 : Int) < (r.length : Int) := by omega
      have i2 : (4096 : Int) ≤ (r.length : Int) := by omega
      have HE := Lib.hid (show (⟨r.toArray⟩ : ByteArray).extract 0 4096 = ⟨(r.take 4096).toArray⟩ from take_toArray r 4096)
      have HE2 := Lib.hid (show (⟨r.toArray⟩ : ByteArray).extract 4096 r.length = ⟨(r.drop 4096).toArray⟩ from drop_toArray r 4096 r.length (Nat.le_refl _))
      have HG2 := Lib.hid ((gather_one l1 r (by omega)).trans HG.out)
      have HDL := Lib.hid (show l1.length + 1 + (r.drop 4096).length ≤ 1100000 by rw [List.length_drop]; omega)
      have HDS := Lib.hid (show (r.drop 4096).length < r.length by rw [List.length_drop]; omega)
      generalize r.take 4096 = t at *
      generalize r.drop 4096 = r2 at *
      go_upto_region 2 with fail
      go_wp2_with (first | (rw [HE.out]) | (at_builtin; (try rw [HE.out]); refine append_st (w := wr) (by rfl) (.tmp 8) (.tmp 12) 28 _ (by rfl) Tryz.underlying28 info_step (by rfl) base u0 l1 (txtSt t) (by rfl) HO.out (by rfl) hll1 hsz ?_; intro v' w3 hown3 htn3) | fail)
      have O3 := Lib.hid hown3; clear hown3
      have T3 := Lib.hid (HTN.out.trans htn3); clear htn3 HTN HO
      go_wp2_with (first | (rw [HE2.out]) | fail)
      go_roundw
      case rel => exact ⟨_, r2, by rw [HE2.out], O3.out, HG2, by simp; have := HDL.out; omega, T3.out⟩
      case measure =>
        rw [HE2.out]
        exact HDS.out
    · have i1 : ¬ (4096 : Int) < (r.length : Int) := by omega
      by_cases h0 : 0 < r.length
      · have hne : r.isEmpty = false := by cases r <;> simp_all
        have HG2 := Lib.hid (show l1 ++ [txtSt r] = gatherS l s by rw [← HG.out, gather_short l1 r h0 (by omega)])
        go_wp2_with (first | (at_builtin; refine append_st (w := wr) (by rfl) (.tmp 18) (.tmp 21) 28 _ (by rfl) Tryz.underlying28 info_step (by rfl) base u0 l1 (txtSt r) (by rfl) HO.out (by rfl) hll1 hsz ?_; intro v' w3 hown3 htn3) | fail)
        go_ret
        exact ⟨_, rfl, by rw [← HG2.out]; exact hown3, HTN.out.trans htn3⟩
      · obtain rfl : r = [] := List.eq_nil_of_length_eq_zero (by omega)
        have HG2 := Lib.hid (show l1 = gatherS l s by rw [← HG.out, gather_nil])
        clear HG
        go_wp2_with fail
        go_ret
        exact ⟨_, rfl, by rw [← HG2.out]; exact HO.out, HTN.out⟩

set_option maxRecDepth 100000 in
set_option maxHeartbeats 1000000 in
theorem refCopy_any (base n : Nat) (v : Value) (l : List DSt) (a k : Int) (w : World) (h : OwnS w base v l) (hok : OkL n l) (hn : n ≤ 1100000) (ha : 0 ≤ a) (ha2 : a ≤ 1073741824) (hk : 0 ≤ k) (hk2 : k ≤ 1100000) (hb : base ≤ w.heap.size) :
    Calls Tryz.prog 27 #[v, .int .i64 a, .int .i64 k] w fun e w' => ∃ v', e = .returned v' ∧ OwnS w' base v' (takeS l a k) ∧ TurnS base w v w' v' := by
  have H0 := Lib.hid h; clear h
  have HB := Lib.hid hb; clear hb
  have hlen := hok.len
  rcases List.eq_nil_or_concat l with rfl | ⟨l1, x, rfl⟩
  · obtain ⟨s0, m0, c0, rfl⟩ := own_slice H0.out
    obtain rfl : m0 = 0 := own_lenV H0.out
    go_enter Tryz.func27, Tryz.ntmps27
    go_wp2_with fail
    go_quiet (fail)
    have hbq := Below_drewN (Below.refl w.heap.size w) nq
    have H1 := Lib.hid (show OwnS (w.drewN nq) base (.slice s0 0 c0) [] from H0.out.new hbq)
    have HTQ := Lib.hid (show TurnS base w (.slice s0 0 c0) (w.drewN nq) (.slice s0 0 c0) from ⟨hbq.mono HB.out, Kept.new hbq _, fun g' e => .inl e⟩)
    have hsz : base ≤ (w.drewN nq).heap.size := HB.out
    clear hbq
    generalize w.drewN nq = w1 at *
    go_wp2_with (at_builtin; refine append_st (w := w1) (by rfl) (.tmp 48) (.tmp 52) 28 _ (by rfl) Tryz.underlying28 info_step (by rfl) base _ [] ⟨a, k, []⟩ (by rfl) H1.out (by rfl) (by simp) hsz ?_; intro v' w3 hown3 htn3)
    go_ret
    exact ⟨_, rfl, hown3, HTQ.out.trans htn3⟩
  · rw [List.concat_eq_append] at H0 hok hlen ⊢
    have hx := hok.el x (by simp)
    rw [List.length_append, List.length_singleton] at hlen
    obtain ⟨p, m, t⟩ := x
    dsimp only at hx
    obtain ⟨x1, x2, x3, x4⟩ := hx
    obtain ⟨g, cap, rfl, hg, hst⟩ := own_last H0.out
    obtain ⟨d0, d1, d2⟩ := hst
    dsimp only at d0 d1 d2
    have HT := Lib.hid (take_snoc l1 ⟨p, m, t⟩ a k)
    dsimp only at HT
    have i2 : ((l1.length + 1 : Nat) : Int) - 1 = (l1.length : Int) := by omega
    have i3 : (l1.length : Int) < ((l1.length + 1 : Nat) : Int) := by omega
    have i4 : (0 : Int) ≤ (l1.length : Int) := by omega
    have i5 : decide ((0 : Int) ≤ (l1.length : Int)) = true := decide_eq_true i4
    generalize takeS (l1 ++ [⟨p, m, t⟩]) a k = res at *
    by_cases h1 : t = []
    · subst h1
      by_cases h2 : p + m = a
      · have HR := Lib.hid (show res = l1 ++ [⟨p, m + k, []⟩] by rw [HT.out, if_pos ⟨rfl, h2⟩])
        have q1 : (p + m == a) = true := by simp [h2]
        clear HT h2 hok
        go_enter Tryz.func27, Tryz.ntmps27
        go_wp2_with fail
        go_quiet (fail)
        have hbq := Below_drewN (Below.refl w.heap.size w) nq
        have hkq : Kept (fun k => (Value.slice (some ⟨g, 0, none⟩) (l1.length + 1) cap).ownBlock = some k) w (w.drewN nq) := Kept.new hbq _
        have H1 := Lib.hid (H0.out.new hbq)
        obtain ⟨hs1, fz1, hg1⟩ := H1.out.set (m + k)
        have HS := Lib.hid hs1
        have HTN := Lib.hid (show TurnS base w (.slice (some ⟨g, 0, none⟩) (l1.length + 1) cap) ((w.drewN nq).setCell ⟨g, l1.length * 3 + 1, none⟩ (.int .i64 (m + k))) (.slice (some ⟨g, 0, none⟩) (l1.length + 1) cap) from
          ⟨(hbq.mono HB.out).setCell (p := ⟨g, l1.length * 3 + 1, none⟩) hg1 _, hkq.setCell (p := ⟨g, l1.length * 3 + 1, none⟩) rfl _, fun g' e => .inl e⟩)
        have E1 : (w.drewN nq).cell? ⟨g, l1.length * 3 + 1, none⟩ = _ := d1
        clear hs1 hbq hkq d0 d1 d2
        generalize w.drewN nq = w1 at *
        go_wp2_with fail
        go_ret
        exact ⟨_, rfl, by rw [HR.out]; exact HS.out, HTN.out⟩
      · have HR := Lib.hid (show res = l1 ++ [⟨p, m, []⟩] ++ [⟨a, k, []⟩] by rw [HT.out, if_neg (fun c => h2 c.2)])
        have q1 : (p + m == a) = false := by simp [h2]
        clear HT h2 hok
        go_enter Tryz.func27, Tryz.ntmps27
        go_wp2_with fail
        go_quiet (fail)
        have hbq := Below_drewN (Below.refl w.heap.size w) nq
        have hkq : Kept (fun k => (Value.slice (some ⟨g, 0, none⟩) (l1.length + 1) cap).ownBlock = some k) w (w.drewN nq) := Kept.new hbq _
        have H1 := Lib.hid (H0.out.new hbq)
        have HTQ := Lib.hid (show TurnS base w (.slice (some ⟨g, 0, none⟩) (l1.length + 1) cap) (w.drewN nq) (.slice (some ⟨g, 0, none⟩) (l1.length + 1) cap) from ⟨hbq.mono HB.out, hkq, fun g' e => .inl e⟩)
        have hsz : base ≤ (w.drewN nq).heap.size := HB.out
        clear hbq hkq d0 d1 d2
        generalize w.drewN nq = w1 at *
        go_wp2_with (at_builtin; refine append_st (w := w1) (by rfl) (.tmp 48) (.tmp 52) 28 _ (by rfl) Tryz.underlying28 info_step (by rfl) base _ (l1 ++ [⟨p, m, []⟩]) ⟨a, k, []⟩ (by rfl) H1.out (by rfl) (by rw [List.length_append, List.length_singleton]; omega) hsz ?_; intro v' w3 hown3 htn3)
        go_ret
        exact ⟨_, rfl, by rw [HR.out]; exact hown3, HTQ.out.trans htn3⟩
    · have HR := Lib.hid (show res = l1 ++ [⟨p, m, t⟩] ++ [⟨a, k, []⟩] by rw [HT.out, if_neg (fun c => h1 c.1)])
      have hne : t.isEmpty = false := by cases t <;> simp_all
      clear HT h1 hok
      go_enter Tryz.func27, Tryz.ntmps27
      go_wp2_with fail
      go_quiet (fail)
      have hbq := Below_drewN (Below.refl w.heap.size w) nq
      have hkq : Kept (fun k => (Value.slice (some ⟨g, 0, none⟩) (l1.length + 1) cap).ownBlock = some k) w (w.drewN nq) := Kept.new hbq _
      have H1 := Lib.hid (H0.out.new hbq)
      have HTQ := Lib.hid (show TurnS base w (.slice (some ⟨g, 0, none⟩) (l1.length + 1) cap) (w.drewN nq) (.slice (some ⟨g, 0, none⟩) (l1.length + 1) cap) from ⟨hbq.mono HB.out, hkq, fun g' e => .inl e⟩)
      have hsz : base ≤ (w.drewN nq).heap.size := HB.out
      clear hbq hkq d0 d1 d2
      generalize w.drewN nq = w1 at *
      go_wp2_with (at_builtin; refine append_st (w := w1) (by rfl) (.tmp 48) (.tmp 52) 28 _ (by rfl) Tryz.underlying28 info_step (by rfl) base _ (l1 ++ [⟨p, m, t⟩]) ⟨a, k, []⟩ (by rfl) H1.out (by rfl) (by rw [List.length_append, List.length_singleton]; omega) hsz ?_; intro v' w3 hown3 htn3)
      go_ret
      exact ⟨_, rfl, by rw [HR.out]; exact hown3, HTQ.out.trans htn3⟩
end Go.Proofs.YtcbodpcekjngbaaGreat
/- The walk of the document's Make. -/
set_option linter.unusedVariables false
namespace Go.Proofs.YtcbodpcekjngbaaGreat
open Go.RowKit

theorem own_off_F {σ : Type} {At : World → σ → Prop} {F : σ → Nat → Prop} (hty : ∀ w s k, At w s → F s k → ∃ cs T fr, w.heap[k]? = some (.cells cs T fr) ∧ T ≠ 54) {w : World} {base : Nat} {v : Value} {l : List DSt} {s : σ} (ho : OwnS w base v l) (ha : At w s) {k : Nat} (hk : F s k) : ¬ v.ownBlock = some k := by
  obtain ⟨cs, T, fr, h, hT⟩ := hty w s k ha hk
  intro e
  obtain ⟨_, _, cur, hc⟩ := ho.lt e
  rw [hc] at h
  injection h with h
  injection h with _ h2 _
  exact hT h2.symm
structure MkL {σ : Type} (At : World → σ → Prop) (F : σ → Nat → Prop) (ok : Nat → σ → Prop) (R : σ → Prop) (w0 : World) (s0 : σ) (s : Txt) (B : Nat) (mt : Txt → Int → Int) (RES : List DSt × Nat × Nat) (l : List DSt) (at' fr : Nat) (wt : Int) (s' : σ) (v : Value) (wr : World) : Prop where
  own : OwnS wr w0.heap.size v l
  ata : At wr s'
  kept : Kept (F s0) w0 wr
  new : ∀ k, F s' k → F s0 k ∨ w0.heap.size ≤ k
  r : R s'
  k : ok (s.length + 4 - at') s'
  le : at' ≤ s.length
  fr' : fr ≤ at'
  gap : fr = at' ∨ at' + B ≤ s.length + 1
  okl : OkL fr l
  w1 : -1 ≤ wt
  w2 : wt ≤ 40001
  res : ∃ f, s.length < at' + f ∧ srchS mt B s f at' fr wt l = RES
theorem str_cat (a b c : Txt) (h : a ++ b = c) : (⟨a.toArray⟩ : ByteArray) ++ ⟨b.toArray⟩ = ⟨c.toArray⟩ := by
  subst h
  apply ByteArray.ext
  simp

set_option maxRecDepth 100000 in
set_option maxHeartbeats 8000000 in
theorem refMake_ok {qp : Value} {σ : Type} {At : World → σ → Prop} {F : σ → Nat → Prop} {nq : σ → Txt → σ → Prop} {mk : σ → Txt → Txt} {ok : Nat → σ → Prop} (I : BookT qp At F nq mk ok)
    (hty : ∀ w s k, At w s → F s k → ∃ cs T fr, w.heap[k]? = some (.cells cs T fr) ∧ T ≠ 54) (htr : ∀ s t s' s'', nq s t s' → nq s' t s'' → nq s t s'') (hokd : ∀ n s t s', ok (n + 1) s → nq s t s' → ok n s') (hokm : ∀ n m s, ok n s → m ≤ n → ok m s)
    (R : σ → Prop) (hR : ∀ s t s', R s → nq s t s' → R s') (is : Txt → Txt → Bool) (B M : Nat) (ws : List Int) (ms : List Txt) (vw vs : Value) (N1 N2 : Nat → Prop) (s : Txt) (s0 : σ) (w : World)
    (his : ∀ s t i, R s → i < ms.length → decide (mOf ms i = mk s t) = is t (mOf ms i)) (hat : At w s0) (hok : ok (s.length + 4) s0) (hR0 : R s0)
    (h1 : Row (Value.int .i64) N1 w vw ws) (h2 : Row encT N2 w vs ms) (hF1 : ∀ k, N1 k → ¬ F s0 k ∧ k < w.heap.size) (hF2 : ∀ k, N2 k → ¬ F s0 k ∧ k < w.heap.size) (hr : rightS B M ws ms = true) (hRI : RightIs B M ws ms B M) (hs : s.length ≤ 524288) :
    Calls Tryz.prog 10 #[qp, sigV B M vw vs, .string ⟨s.toArray⟩] w fun e w' => ∃ v s', e = .returned (.tuple #[v, .int .i64 0]) ∧ OwnS w' w.heap.size v (makeS is ws ms B M s) ∧ At w' s' ∧ Kept (F s0) w w' ∧ (∀ k, F s' k → F s0 k ∨ w.heap.size ≤ k) ∧ R s' ∧ ok 3 s' := by
  have HI := Lib.hid I; clear I
  have HTY := Lib.hid hty; clear hty
  have hB1 := hRI.b1
  have hB2 := hRI.b2
  have hM := hRI.n2
  have hlw := hRI.lw
  have hlm := hRI.lm
  have hq := hRI.q
  have SL := Lib.hid (show (⟨s.toArray⟩ : ByteArray).size = s.length from rfl)
  obtain ⟨a2, c2, rfl, hc2⟩ := h2
  obtain ⟨a1, c1, rfl, hc1⟩ := h1
  have H1 := Lib.hid (show Row (Value.int .i64) N1 w (.slice a1 ws.length c1) ws from ⟨a1, c1, rfl, hc1⟩)
  have H2 := Lib.hid (show Row encT N2 w (.slice a2 ms.length c2) ms from ⟨a2, c2, rfl, hc2⟩)
  have hb0 := below_self_alloc w (sigC B M (.slice a1 ws.length c1) (.slice a2 ms.length c2))
  have HB0 := Lib.hid hb0
  have HG0 := Lib.hid (heap_alloc_new w (sigC B M (.slice a1 ws.length c1) (.slice a2 ms.length c2)))
  have HS0 := Lib.hid (show (w.alloc (sigC B M (.slice a1 ws.length c1) (.slice a2 ms.length c2))).heap.size = w.heap.size + 1 by simp)
  have HAT0 := Lib.hid (HI.out.grow hat hb0)
  have HFL := Lib.hid (fun k h => HI.out.lt w s0 k hat h)
  have RR := Lib.hid (refRight_any B M ws ms (.slice a1 ws.length c1) (.slice a2 ms.length c2) N1 N2 _ (H1.out.keep hb0) (H2.out.keep hb0) (by omega) (by omega))
  rw [hr] at RR
  have J1 := Lib.hid (H1.out.keep hb0)
  have J2 := Lib.hid (H2.out.keep hb0)
  have HF1 := Lib.hid hF1
  have HF2 := Lib.hid hF2
  have HST := Lib.hid (show makeS is ws ms B M s = restS (tlP is ws ms (M / B) B M) M B s (srchS (mtP is ws ms (M / B) B) B s (s.length + 1) 0 0 0 []).1 (srchS (mtP is ws ms (M / B) B) B s (s.length + 1) 0 0 0 []).2.1 from rfl)
  obtain ⟨RES, hRES⟩ : ∃ R, R = srchS (mtP is ws ms (M / B) B) B s (s.length + 1) 0 0 0 [] := ⟨_, rfl⟩
  rw [← hRES] at HST
  generalize makeS is ws ms B M s = OUT at *
  have HRES := Lib.hid hRES; clear hRES
  have hNw : M / B ≤ ws.length := by rw [hlw]; exact Nat.div_le_div_right (by omega)
  have hNm : M / B ≤ ms.length := by rw [hlm, ← hlw]; exact hNw
  have hN4 : M / B ≤ 40000 := by omega
  have HTOP := Lib.hid (show ∀ t wanted, mtP is ws ms (M / B) B t wanted ≤ 40000 from fun t wanted => by
    rcases Int.lt_or_le (mtP is ws ms (M / B) B t wanted) 0 with c | c
    · omega
    · obtain ⟨i, h1, h2, _⟩ := matchP_spec (P := pOf (is t) ws ms (wk t : Nat)) (N := M / B) (B := B) (t := t) (wanted := wanted) (by unfold mtP at c; omega)
      unfold mtP
      rw [h1]; omega)
  -- the callees' contracts at any world that the loop reaches
  have MAT := Lib.hid (show ∀ (w0 wr : World) (s' : σ) (t : Txt) (wt : Int), Row (Value.int .i64) N1 w0 (.slice a1 ws.length c1) ws → Row encT N2 w0 (.slice a2 ms.length c2) ms → w0.heap.size = w.heap.size + 1 → Kept (F s0) w0 wr → (∀ k, F s' k → F s0 k ∨ w0.heap.size ≤ k) → R s' → ok 2 s' → t.length ≤ 1024 → ∀ p : RchOf (fun w' => ∃ s'', Rch At F nq wr s' t w' s''),
      Calls Tryz.prog 24 #[qp, sigV B M (.slice a1 ws.length c1) (.slice a2 ms.length c2), .int .i64 (wk t : Nat), .string ⟨t.toArray⟩, .int .i64 wt] p.w fun e w'' => e = .returned (.int .i64 (mtP is ws ms (M / B) B t wt)) ∧ ∃ s'', Rch At F nq wr s' t w'' s'' from fun w0 wr s' t wt j1 j2 hsz hk hnew hr' hok' ht p => by
    obtain ⟨s2, h⟩ := p.h
    have hn : ∀ k, F s2 k → F s0 k ∨ w0.heap.size ≤ k := fun k hk2 => (h.new k hk2).elim (hnew k) (fun c => .inr (Nat.le_trans hk.size c))
    have kk : Kept (F s0) w0 p.w := ⟨h.kept.os.trans hk.os, h.kept.tape.trans hk.tape, h.kept.output.trans hk.output, Nat.le_trans hk.size h.kept.size, fun i hi hm => (h.kept.block i (Nat.lt_of_lt_of_le hi hk.size) (fun e => (hnew i e).elim hm (fun c => by omega))).trans (hk.block i hi hm)⟩
    refine (refMatch_any HI.out B M ws ms _ _ N1 N2 t (wk t : Nat) wt s2 (is t) p.w h.at' (hokd 1 s' t s2 hok' h.nx) ht (row_kept j1 kk (fun k hk => (HF1.out k hk).1)) (row_kept j2 kk (fun k hk => (HF2.out k hk).1)) (fun k hk e => (hn k e).elim (HF2.out k hk).1 (fun c => by have := (HF2.out k hk).2; omega)) hNw hNm (by omega) (by omega) hB1 hB2 hM (fun i hi => his s2 t i (hR _ _ _ hr' h.nx) hi)).mono ?_
    rintro e w'' ⟨rfl, s3, h3⟩
    refine ⟨rfl, s3, h3.at', htr _ _ _ _ h.nx h3.nx, ⟨h3.kept.os.trans h.kept.os, h3.kept.tape.trans h.kept.tape, h3.kept.output.trans h.kept.output, Nat.le_trans h.kept.size h3.kept.size, fun i hi hm => (h3.kept.block i (Nat.lt_of_lt_of_le hi h.kept.size) (fun e => (h.new i e).elim hm (fun c => by omega))).trans (h.kept.block i hi hm)⟩, fun k hk3 => (h3.new k hk3).elim (h.new k) (fun c => .inr (Nat.le_trans h.kept.size c))⟩)
  have TAI := Lib.hid (show ∀ (w0 wr : World) (s' : σ) (t : Txt), Row (Value.int .i64) N1 w0 (.slice a1 ws.length c1) ws → Row encT N2 w0 (.slice a2 ms.length c2) ms → w0.heap.size = w.heap.size + 1 → Kept (F s0) w0 wr → (∀ k, F s' k → F s0 k ∨ w0.heap.size ≤ k) → R s' → ok 2 s' → t.length ≤ 1024 → ∀ p : RchOf (fun w' => ∃ s'', Rch At F nq wr s' t w' s''),
      Calls Tryz.prog 28 #[qp, sigV B M (.slice a1 ws.length c1) (.slice a2 ms.length c2), .string ⟨t.toArray⟩] p.w fun e w'' => e = .returned (.bool (tlP is ws ms (M / B) B M t)) ∧ ∃ s'', Rch At F nq wr s' t w'' s'' from fun w0 wr s' t j1 j2 hsz hk hnew hr' hok' ht p => by
    obtain ⟨s2, h⟩ := p.h
    have hn : ∀ k, F s2 k → F s0 k ∨ w0.heap.size ≤ k := fun k hk2 => (h.new k hk2).elim (hnew k) (fun c => .inr (Nat.le_trans hk.size c))
    have kk : Kept (F s0) w0 p.w := ⟨h.kept.os.trans hk.os, h.kept.tape.trans hk.tape, h.kept.output.trans hk.output, Nat.le_trans hk.size h.kept.size, fun i hi hm => (h.kept.block i (Nat.lt_of_lt_of_le hi hk.size) (fun e => (hnew i e).elim hm (fun c => by omega))).trans (hk.block i hi hm)⟩
    refine (refTail_any HI.out B M ws ms _ _ N1 N2 t s2 (is t) p.w h.at' (hokd 1 s' t s2 hok' h.nx) ht (row_kept j1 kk (fun k hk => (HF1.out k hk).1)) (row_kept j2 kk (fun k hk => (HF2.out k hk).1)) (fun k hk e => (hn k e).elim (HF1.out k hk).1 (fun c => by have := (HF1.out k hk).2; omega)) (fun k hk e => (hn k e).elim (HF2.out k hk).1 (fun c => by have := (HF2.out k hk).2; omega)) hlw hlm (by omega) hB1 hB2 hM (fun i hi => his s2 t i (hR _ _ _ hr' h.nx) hi)).mono ?_
    rintro e w'' ⟨rfl, s3, h3⟩
    refine ⟨rfl, s3, h3.at', htr _ _ _ _ h.nx h3.nx, ⟨h3.kept.os.trans h.kept.os, h3.kept.tape.trans h.kept.tape, h3.kept.output.trans h.kept.output, Nat.le_trans h.kept.size h3.kept.size, fun i hi hm => (h3.kept.block i (Nat.lt_of_lt_of_le hi h.kept.size) (fun e => (h.new i e).elim hm (fun c => by omega))).trans (h.kept.block i hi hm)⟩, fun k hk3 => (h3.new k hk3).elim (h.new k) (fun c => .inr (Nat.le_trans h.kept.size c))⟩)
  have HOKD := Lib.hid hokd
  have HOKM := Lib.hid hokm
  have HRN := Lib.hid hR
  have HR0 := Lib.hid hR0
  have HOK := Lib.hid hok
  generalize hmt : mtP is ws ms (M / B) B = mt at *
  generalize hTT : tlP is ws ms (M / B) B M = TT at *
  clear hmt hTT hlw hlm hq hNw hNm hN4 hokd hokm hR hR0 hok his hat hr hRI hc1 hc2 hb0 htr hF1 hF2 H1 H2
  have d0 := sig_c0 HG0.out
  have d1 := sig_c1 HG0.out
  have d2 := sig_c2 HG0.out
  have d3 := sig_c3 HG0.out
  have q2 : ¬ (524288 : Int) < (s.length : Int) := by omega
  have HFW := Lib.hid (show ¬ F s0 w.heap.size from fun h => by have := HFL.out _ h; omega)
  go_enter Tryz.func10, Tryz.ntmps10
  go_wp2_with fail
  generalize w.alloc (.cells #[.int .i64 B, .int .i64 M, .slice a1 ws.length c1, .slice a2 ms.length c2] 25) = w0 at *
  refine RR.out.mono ?_
  rintro e w1 ⟨rfl, hb1⟩
  have L0 := Lib.hid (show MkL At F ok R w0 s0 s B mt RES [] 0 0 0 s0 (.slice none 0 0) w1 from ⟨OwnS.nil _ _, HI.out.grow HAT0.out hb1, Kept.new hb1 _, fun k h => .inl h, HR0.out, HOK.out, Nat.zero_le _, Nat.le_refl _, .inl rfl, OkL.nil _, by decide, by decide, s.length + 1, by omega, HRES.out.symm⟩)
  have D0 := Lib.hid d0
  have D1 := Lib.hid d1
  have D2 := Lib.hid d2
  have D3 := Lib.hid d3
  clear hb1 RR d0 d1 d2 d3
  go_wp2_with fail
  go_loopw [8, 9, 10, 11] (fun v h x a wr => ∃ (l : List DSt) (at' fr : Nat) (wt : Int) (s' : σ), a = .int .i64 at' ∧ x = .int .i64 wt ∧ h = .string ⟨(segS s fr at').toArray⟩ ∧ MkL At F ok R w0 s0 s B mt RES l at' fr wt s' v wr) (fun _ _ _ a _ => s.length + 1 - (intOf a).toNat)
  case atStart => exact ⟨[], 0, 0, 0, s0, rfl, rfl, by rw [seg_self], L0.out⟩
  case round =>
    clear L0
    obtain ⟨l, at', fr, wt, s', rfl, rfl, rfl, hL⟩ := hrel
    have HL := Lib.hid hL; clear hL
    have hle := HL.out.le
    have hfr := HL.out.fr'
    have HFS := Lib.hid (show ¬ F s' w.heap.size from fun h => (HL.out.new _ h).elim HFW.out (fun c => by have := HS0.out; omega))
    have KC := Lib.hid (fun (o : Nat) (v : Value) (hc : w0.cell? ⟨w.heap.size, o, none⟩ = some v) => (show wr.cell? ⟨w.heap.size, o, none⟩ = some v from by
      have hlt := World.block_lt_of_cell? w0 _ hc
      have hb := HL.out.kept.block w.heap.size hlt HFW.out
      unfold World.cell? at hc ⊢
      simp only at hc ⊢
      rw [hb]; exact hc))
    have c0 := KC.out 0 _ D0.out
    have c1' := KC.out 1 _ D1.out
    have c2' := KC.out 2 _ D2.out
    have c3 := KC.out 3 _ D3.out
    have HSG := seg_len s fr at' hle
    have HEL := Lib.hid (show (⟨(segS s fr at').toArray⟩ : ByteArray).size = (segS s fr at').length from rfl)
    by_cases hin : at' + B ≤ s.length
    · have i1 : (B : Int) ≤ (s.length : Int) - (at' : Int) := by omega
      obtain ⟨ab, hab⟩ : ∃ ab, ab = at' + B := ⟨_, rfl⟩
      have WAB : (at' : Int) + (B : Int) = (ab : Int) := by omega
      have a1' : (at' : Int) ≤ (ab : Int) := by omega
      have a2' : (ab : Int) ≤ (s.length : Int) := by omega
      have HE := Lib.hid (show (⟨s.toArray⟩ : ByteArray).extract at' ab = ⟨(win s B at').toArray⟩ by rw [hab]; exact slice_toArray s at' (at' + B))
      have hwl := win_length s B at' (by omega)
      have HAB := Lib.hid hab; clear hab
      have MT := Lib.hid (MAT.out w0 wr s' (win s B at') wt J1.out J2.out HS0.out HL.out.kept HL.out.new HL.out.r (HOKM.out _ 2 _ HL.out.k (by omega)) (by omega))
      have hTOP := HTOP.out (win s B at') wt
      have SM := fun w' => Lib.hid (wrefSum_any (win s B at') w' (by omega))
      have HNO := Lib.hid (fun f hm => srch_no mt B s f at' fr wt l hin hm)
      have HYES := Lib.hid (fun f i hi hm => srch_yes mt B s f at' fr wt i l hin hi hm)
      obtain ⟨ii, hii⟩ : ∃ ii, ii = mt (win s B at') wt := ⟨_, rfl⟩
      rw [← hii] at MT hTOP HNO HYES
      obtain ⟨x, hx⟩ : ∃ x, x = wk (win s B at') := ⟨_, rfl⟩
      rw [← hx] at MT SM
      generalize win s B at' = tw at *
      clear hx hii hwl
      haveI : Inhabited (RchOf (fun w' => ∃ s'', Rch At F nq wr s' tw w' s'')) := ⟨⟨wr, s', HI.out.start HL.out.ata tw⟩⟩
      have HPX : Hid (∀ p : RchOf (fun w' => ∃ s'', Rch At F nq wr s' tw w' s''), p.w.cell? ⟨w.heap.size, 0, none⟩ = some (.int .i64 B) ∧ p.w.cell? ⟨w.heap.size, 1, none⟩ = some (.int .i64 M) ∧ p.w.cell? ⟨w.heap.size, 2, none⟩ = some (.slice a1 ws.length c1) ∧ p.w.cell? ⟨w.heap.size, 3, none⟩ = some (.slice a2 ms.length c2)) := Lib.hid fun p => by
        obtain ⟨s'', h⟩ := p.h
        exact ⟨h.cell c0 HFS.out, h.cell c1' HFS.out, h.cell c2' HFS.out, h.cell c3 HFS.out⟩
      have HSP := Lib.hid (show ∀ p : RchOf (fun w' => ∃ s'', Rch At F nq wr s' tw w' s''), Calls Tryz.prog 25 #[.string ⟨tw.toArray⟩] p.w fun e w'' => e = .returned (.int .i64 (x : Nat)) ∧ ∃ s'', Rch At F nq wr s' tw w'' s'' from fun p => by
        obtain ⟨s'', h⟩ := p.h
        exact (SM p.w).out.mono fun e w'' ⟨h1, h2⟩ => ⟨h1, s'', h2 ▸ h⟩)
      go_upto_region 11 with fail
      rw [HE.out]
      have C0 := fun p => (HPX.out p).1
      have C1 := fun p => (HPX.out p).2.1
      have C2 := fun p => (HPX.out p).2.2.1
      have C3 := fun p => (HPX.out p).2.2.2
      clear c0 c1' c2' c3 HE SM
      refine wp_region_rch (fun w' => ∃ s'', Rch At F nq wr s' tw w' s'') (by kernel_rfl) (by kernel_rfl) ⟨s', (HI.out.start HL.out.ata tw).grow HI.out (Below_drew (Below.refl _ _))⟩ ?_
      repeat (go_big_quiet_step ((first | (go_at_call 25; exact rch_calls (HSP.out _)) | (go_at_call 24; exact rch_calls (MT.out _)))))
      refine wpQuiet_nil ?_
      rintro w6 ⟨⟨w6b, s6, hr6⟩, hw6⟩
      have hw6b : w6 = w6b := hw6
      clear hw6
      subst hw6b
      have E0 : w6.cell? ⟨w.heap.size, 0, none⟩ = some (.int .i64 B) := hr6.cell (KC.out 0 _ D0.out) HFS.out
      have E1 : w6.cell? ⟨w.heap.size, 1, none⟩ = some (.int .i64 M) := hr6.cell (KC.out 1 _ D1.out) HFS.out
      have hn6 : ∀ k, F s6 k → F s0 k ∨ w0.heap.size ≤ k := fun k hk => (hr6.new k hk).elim (HL.out.new k) (fun c => .inr (Nat.le_trans HL.out.kept.size c))
      have hk6 : Kept (F s0) w0 w6 := ⟨hr6.kept.os.trans HL.out.kept.os, hr6.kept.tape.trans HL.out.kept.tape, hr6.kept.output.trans HL.out.kept.output, Nat.le_trans HL.out.kept.size hr6.kept.size, fun i hi hm => (hr6.kept.block i (Nat.lt_of_lt_of_le hi HL.out.kept.size) (fun e => (HL.out.new i e).elim hm (fun c => by omega))).trans (HL.out.kept.block i hi hm)⟩
      have HO6 := Lib.hid (HL.out.own.kept hr6.kept (fun g hg h => own_off_F HTY.out HL.out.own HL.out.ata h hg))
      have HA6 := Lib.hid hr6.at'
      have HN6 := Lib.hid hn6
      have HK6 := Lib.hid hk6
      have HR6 := Lib.hid (HRN.out _ _ _ HL.out.r hr6.nx)
      have HOK6 := Lib.hid (HOKD.out (s.length + 3 - at') s' tw s6 (HOKM.out _ _ _ HL.out.k (by omega)) hr6.nx)
      have HRS := Lib.hid HL.out.res
      have HOL := Lib.hid HL.out.okl
      have hw1 := HL.out.w1
      have hw2 := HL.out.w2
      have HFS6 := Lib.hid (show ¬ F s6 w.heap.size from fun h => (HN6.out _ h).elim HFW.out (fun c => by have := HS0.out; omega))
      clear C0 C1 C2 C3 hr6 hn6 hk6 HPX HSP MT KC HL
      by_cases hneg : ii < 0
      · obtain ⟨an, han⟩ : ∃ an, an = at' + 1 := ⟨_, rfl⟩
        have WAN : (at' : Int) + 1 = (an : Int) := by omega
        have b2' : (an : Int) ≤ (s.length : Int) := by omega
        have b1' : (at' : Int) ≤ (an : Int) := by omega
        have HE2 := Lib.hid (show (⟨s.toArray⟩ : ByteArray).extract at' an = ⟨(segS s at' an).toArray⟩ from slice_toArray s at' an)
        have HSL2 := Lib.hid (show (⟨(segS s at' an).toArray⟩ : ByteArray).size = (segS s at' an).length from rfl)
        have hsl2 := seg_len s at' an (by omega)
        have HCT := Lib.hid (str_cat (segS s fr at') (segS s at' an) (segS s fr an) (seg_join s fr at' an (by omega) (by omega)))
        have HAN := Lib.hid han; clear han
        generalize segS s fr at' = h0 at *
        generalize hsa : segS s at' an = sa at *
        clear hsa
        generalize hsn : segS s fr an = sn at *
        have HSN := Lib.hid hsn; clear hsn
        go_wp2_with (first | (rw [HE2.out]) | fail)
        go_roundw
        case rel =>
          refine ⟨l, an, fr, wt, s6, by go_num, rfl, by rw [HSN.out, ← HCT.out], HO6.out, HA6.out, HK6.out, HN6.out, HR6.out, ?_, by have := HAN.out; omega, by have := HAN.out; omega, .inr (by have := HAN.out; omega), HOL.out, hw1, hw2, ?_⟩
          · exact HOKM.out _ _ _ HOK6.out (by have := HAN.out; omega)
          · obtain ⟨f, h1, h2⟩ := HRS.out
            obtain ⟨f', rfl⟩ : ∃ f', f = f' + 1 := ⟨f - 1, by omega⟩
            exact ⟨f', by have := HAN.out; omega, by rw [← h2, HAN.out]; exact (HNO.out f' hneg).symm⟩
        case measure => have := HAN.out; simp [intOf]; omega
      · have hiB : 0 ≤ ii * (B : Int) ∧ ii * (B : Int) ≤ 40960000 := by
          have h1 : 0 ≤ ii := by omega
          obtain ⟨i0, rfl⟩ : ∃ i0 : Nat, ii = (i0 : Int) := ⟨ii.toNat, by omega⟩
          have h2 : i0 * B ≤ 40000 * 1024 := Nat.mul_le_mul (by omega) hB2
          rw [← Int.natCast_mul]
          omega
        have HG := Lib.hid (HOL.out.gather (segS s fr at'))
        have TX := Lib.hid (refTexts_any w0.heap.size fr u8 l (segS s fr at') w6 HO6.out HOL.out (by omega) HK6.out.size)
        have CP := fun v' w' ho hb => Lib.hid (refCopy_any w0.heap.size (fr + (segS s fr at').length) v' (gatherS l (segS s fr at')) (ii * (B : Int)) (B : Int) w' ho HG.out (by omega) (by omega) (by omega) (by omega) (by omega) hb)
        have HOK2 := Lib.hid (HG.out.take (m := ab) (a := ii * (B : Int)) (k := (B : Int)) hiB.1 (by omega) (by omega) (by have := HAB.out; omega) (by have := HAB.out; omega))
        have HRN2 := Lib.hid (show ∃ f, s.length < ab + f ∧ srchS mt B s f ab ab (ii + 1) (takeS (gatherS l (segS s fr at')) (ii * (B : Int)) (B : Int)) = RES by
          obtain ⟨f, h1, h2⟩ := HRS.out
          obtain ⟨f', rfl⟩ : ∃ f', f = f' + 1 := ⟨f - 1, by omega⟩
          rw [HAB.out]
          exact ⟨f', by omega, by rw [← h2]; exact (HYES.out f' ii rfl hneg).symm⟩)
        have HSE := Lib.hid (show segS s ab ab = [] from seg_self s ab)
        generalize takeS (gatherS l (segS s fr at')) (ii * (B : Int)) (B : Int) = l2 at *
        generalize gatherS l (segS s fr at') = l1 at *
        generalize segS s fr at' = sg at *
        clear HYES HNO HSG
        go_wp2_with fail
        refine TX.out.mono ?_
        rintro e w7 ⟨v7, rfl, ho7, tn7⟩
        have HO7 := Lib.hid ho7
        have HA7 := Lib.hid (HI.out.kept _ _ _ _ HA6.out tn7.kept (fun k hk => own_off_F HTY.out HO6.out HA6.out hk))
        have hb7 : Below w0.heap.size w6 w7 := tn7.bel
        have G0 : w7.cell? ⟨w.heap.size, 0, none⟩ = some (.int .i64 B) := (hb7.cell (by have := HS0.out; show w.heap.size < _; omega)).trans E0
        have HK7 := Lib.hid (show Kept (F s0) w0 w7 from ⟨hb7.os.trans HK6.out.os, hb7.tape.trans HK6.out.tape, hb7.output.trans HK6.out.output, Nat.le_trans HK6.out.size hb7.size, fun i hi hm => (hb7.block i hi).trans (HK6.out.block i hi hm)⟩)
        clear ho7 tn7 TX hb7 HA6 HO6 E1 E0
        go_wp2_with fail
        refine (CP _ _ HO7.out HK7.out.size).out.mono ?_
        rintro e w8 ⟨v8, rfl, ho8, tn8⟩
        have HO8 := Lib.hid ho8
        have HA8 := Lib.hid (HI.out.kept _ _ _ _ HA7.out tn8.kept (fun k hk => own_off_F HTY.out HO7.out HA7.out hk))
        have hb8 : Below w0.heap.size w7 w8 := tn8.bel
        have G8 : w8.cell? ⟨w.heap.size, 0, none⟩ = some (.int .i64 B) := (hb8.cell (by have := HS0.out; show w.heap.size < _; omega)).trans G0
        have HK8 := Lib.hid (show Kept (F s0) w0 w8 from ⟨hb8.os.trans HK7.out.os, hb8.tape.trans HK7.out.tape, hb8.output.trans HK7.out.output, Nat.le_trans HK7.out.size hb8.size, fun i hi hm => (hb8.block i hi).trans (HK7.out.block i hi hm)⟩)
        clear ho8 tn8 CP hb8 HA7 HO7 HK6 HK7 G0
        go_wp2_with fail
        go_roundw
        case rel =>
          refine ⟨l2, ab, ab, ii + 1, s6, by go_num, rfl, by rw [HSE.out], HO8.out, HA8.out, HK8.out, HN6.out, HR6.out, HOKM.out _ _ _ HOK6.out (by have := HAB.out; omega), by have := HAB.out; omega, Nat.le_refl _, .inl rfl, HOK2.out, by omega, by omega, HRN2.out⟩
        case measure => have := HAB.out; simp [intOf]; omega
    · have i1 : ¬ (B : Int) ≤ (s.length : Int) - (at' : Int) := by omega
      obtain ⟨r, hrr⟩ : ∃ r, r = M % B := ⟨_, rfl⟩
      have TM : Int.tmod (M : Int) (B : Int) = (r : Int) := by rw [hrr]; rfl
      have hrB : r < B := by rw [hrr]; exact Nat.mod_lt _ (by omega)
      have hrM : r ≤ M := by rw [hrr]; exact Nat.mod_le _ _
      have qb0 : ((B : Int) == 0) = false := by simp; omega
      have HOUT := Lib.hid (show OUT = restS TT M B s l fr by
        obtain ⟨f, h1, h2⟩ := HL.out.res
        rw [HST.out, ← h2, srch_end _ _ _ _ _ _ _ _ hin])
      unfold restS at HOUT
      rw [← hrr] at HOUT
      clear hrr
      have hgap := HL.out.gap
      have HEQ := Lib.hid (show fr + r ≤ s.length ↔ at' + r ≤ s.length by omega)
      clear hgap
      by_cases hc : at' + r ≤ s.length
      · obtain ⟨q, hq⟩ : ∃ q, q = s.length - r := ⟨_, rfl⟩
        have WL : IntKind.i64.wrap ((s.length : Int) - (r : Int)) = (q : Int) := by rw [IntKind.wrap_i64]; omega
        have WL2 : (s.length : Int) - (r : Int) = (q : Int) := by omega
        have WA : IntKind.i64.wrap ((s.length : Int) - (at' : Int)) = (s.length : Int) - (at' : Int) := by rw [IntKind.wrap_i64]; omega
        have qc : (r : Int) ≤ (s.length : Int) - (at' : Int) := by omega
        have qcd : decide ((r : Int) ≤ (s.length : Int) - (at' : Int)) = true := decide_eq_true qc
        have q1 : (q : Int) ≤ (s.length : Int) := by omega
        have q0 : (0 : Int) ≤ (q : Int) := by omega
        have q3 : (at' : Int) ≤ (q : Int) := by omega
        have hqr : s.length - q ≤ 1024 := by omega
        have HQR := Lib.hid hq
        rw [← hq] at HOUT
        have HE := Lib.hid (show (⟨s.toArray⟩ : ByteArray).extract q s.length = ⟨(s.drop q).toArray⟩ from drop_toArray s q s.length (Nat.le_refl _))
        have TA := Lib.hid (TAI.out w0 wr s' (s.drop q) J1.out J2.out HS0.out HL.out.kept HL.out.new HL.out.r (HOKM.out _ 2 _ HL.out.k (by omega)) (by rw [List.length_drop]; omega))
        have HE2 := Lib.hid (show (⟨s.toArray⟩ : ByteArray).extract at' q = ⟨(segS s at' q).toArray⟩ from slice_toArray s at' q)
        have HSL2 := Lib.hid (show (⟨(segS s at' q).toArray⟩ : ByteArray).size = (segS s at' q).length from rfl)
        have hsl2 := seg_len s at' q (by omega)
        have HCT := Lib.hid (str_cat (segS s fr at') (segS s at' q) (segS s fr q) (seg_join s fr at' q (by omega) (by omega)))
        have HE3 := Lib.hid (show (⟨s.toArray⟩ : ByteArray).extract at' s.length = ⟨(s.drop at').toArray⟩ from drop_toArray s at' s.length (Nat.le_refl _))
        have HSL3 := Lib.hid (show (⟨(s.drop at').toArray⟩ : ByteArray).size = (s.drop at').length from rfl)
        have hsl3 : (s.drop at').length = s.length - at' := List.length_drop
        have HCT3 := Lib.hid (str_cat (segS s fr at') (s.drop at') (s.drop fr) (by rw [← seg_drop, ← seg_drop, seg_join s fr at' s.length (by omega) (by omega)]))
        have hsq := seg_len s fr q (by omega)
        have hdf : (s.drop fr).length = s.length - fr := List.length_drop
        clear hq
        haveI : Inhabited (RchOf (fun w' => ∃ s'', Rch At F nq wr s' (s.drop q) w' s'')) := ⟨⟨wr, s', HI.out.start HL.out.ata _⟩⟩
        have HPX : Hid (∀ p : RchOf (fun w' => ∃ s'', Rch At F nq wr s' (s.drop q) w' s''), p.w.cell? ⟨w.heap.size, 0, none⟩ = some (.int .i64 B) ∧ p.w.cell? ⟨w.heap.size, 1, none⟩ = some (.int .i64 M) ∧ p.w.cell? ⟨w.heap.size, 2, none⟩ = some (.slice a1 ws.length c1) ∧ p.w.cell? ⟨w.heap.size, 3, none⟩ = some (.slice a2 ms.length c2)) := Lib.hid fun p => by
          obtain ⟨s'', h⟩ := p.h
          exact ⟨h.cell c0 HFS.out, h.cell c1' HFS.out, h.cell c2' HFS.out, h.cell c3 HFS.out⟩
        have C0 := fun p => (HPX.out p).1
        have C1 := fun p => (HPX.out p).2.1
        have C2 := fun p => (HPX.out p).2.2.1
        have C3 := fun p => (HPX.out p).2.2.2
        cases hT : TT (s.drop q) with
        | true =>
          rw [hT] at TA
          have HOUT2 := Lib.hid (show OUT = takeS (gatherS l (segS s fr q)) ((M - r : Nat) : Int) (r : Int) by rw [HOUT.out, if_pos ⟨HEQ.out.2 hc, hT⟩])
          have GA := fun v' w' ho hb => Lib.hid (refTexts_any w0.heap.size fr v' l (segS s fr q) w' ho HL.out.okl (by omega) hb)
          have HG := Lib.hid (HL.out.okl.gather (segS s fr q))
          have TK := fun v' w' ho hb => Lib.hid (refCopy_any w0.heap.size (fr + (segS s fr q).length) v' (gatherS l (segS s fr q)) ((M - r : Nat) : Int) (r : Int) w' ho HG.out (by omega) (by omega) (by omega) (by omega) (by omega) hb)
          have WM : (M : Int) - (r : Int) = ((M - r : Nat) : Int) := by omega
          clear HOUT hT
          generalize ((M - r : Nat) : Int) = mr at *
          generalize s.drop q = tq at *
          generalize hg1 : segS s fr q = sg at *
          generalize hg2 : segS s at' q = sa at *
          generalize hg3 : segS s fr at' = sh at *
          generalize s.drop at' = sd at *
          generalize s.drop fr = sf at *
          clear hg1 hg2 hg3
          go_upto_region 21 with fail
          refine wp_region_rch (fun w' => ∃ s'', Rch At F nq wr s' tq w' s'') (by kernel_rfl) (by kernel_rfl) ⟨s', (HI.out.start HL.out.ata tq).grow HI.out (Below_drew (Below.refl _ _))⟩ ?_
          repeat (go_big_quiet_step ((go_at_call 28; (try rw [HE.out]); exact rch_calls (TA.out _))))
          refine wpQuiet_nil ?_
          rintro w6 ⟨⟨w6b, s6, hr6⟩, hw6⟩
          have hw6b : w6 = w6b := hw6
          clear hw6
          subst hw6b
          have E1 : w6.cell? ⟨w.heap.size, 1, none⟩ = some (.int .i64 M) := hr6.cell c1' HFS.out
          have hn6 : ∀ k, F s6 k → F s0 k ∨ w0.heap.size ≤ k := fun k hk => (hr6.new k hk).elim (HL.out.new k) (fun c => .inr (Nat.le_trans HL.out.kept.size c))
          have hk6 : Kept (F s0) w0 w6 := ⟨hr6.kept.os.trans HL.out.kept.os, hr6.kept.tape.trans HL.out.kept.tape, hr6.kept.output.trans HL.out.kept.output, Nat.le_trans HL.out.kept.size hr6.kept.size, fun i hi hm => (hr6.kept.block i (Nat.lt_of_lt_of_le hi HL.out.kept.size) (fun e => (HL.out.new i e).elim hm (fun c => by omega))).trans (HL.out.kept.block i hi hm)⟩
          have HO6 := Lib.hid (HL.out.own.kept hr6.kept (fun g hg h => own_off_F HTY.out HL.out.own HL.out.ata h hg))
          have HA6 := Lib.hid hr6.at'
          have HN6 := Lib.hid hn6
          have HK6 := Lib.hid hk6
          have HR6 := Lib.hid (HRN.out _ _ _ HL.out.r hr6.nx)
          have HOK6 := Lib.hid (HOKD.out 3 s' tq s6 (HOKM.out _ _ _ HL.out.k (by omega)) hr6.nx)
          clear C0 C1 C2 C3 hr6 hn6 hk6 HPX TA c0 c1' c2' c3 KC
          go_wp2_with (first | (rw [HE2.out]) | fail)
          (try rw [HE2.out])
          rw [HCT.out]
          refine (GA _ _ HO6.out HK6.out.size).out.mono ?_
          rintro e w7 ⟨v7, rfl, ho7, tn7⟩
          have HO7 := Lib.hid ho7
          have HA7 := Lib.hid (HI.out.kept _ _ _ _ HA6.out tn7.kept (fun k hk => own_off_F HTY.out HO6.out HA6.out hk))
          have hb7 : Below w0.heap.size w6 w7 := tn7.bel
          have G1 : w7.cell? ⟨w.heap.size, 1, none⟩ = some (.int .i64 M) := (hb7.cell (by have := HS0.out; show w.heap.size < _; omega)).trans E1
          have HK7 := Lib.hid (show Kept (F s0) w0 w7 from ⟨hb7.os.trans HK6.out.os, hb7.tape.trans HK6.out.tape, hb7.output.trans HK6.out.output, Nat.le_trans HK6.out.size hb7.size, fun i hi hm => (hb7.block i hi).trans (HK6.out.block i hi hm)⟩)
          clear ho7 tn7 GA hb7 HA6 HO6 E1
          go_wp2_with fail
          refine (TK _ _ HO7.out HK7.out.size).out.mono ?_
          rintro e w8 ⟨v8, rfl, ho8, tn8⟩
          have HO8 := Lib.hid ho8
          have HA8 := Lib.hid (HI.out.kept _ _ _ _ HA7.out tn8.kept (fun k hk => own_off_F HTY.out HO7.out HA7.out hk))
          have hb8 : Below w0.heap.size w7 w8 := tn8.bel
          have HK8 := Lib.hid (show Kept (F s0) w0 w8 from ⟨hb8.os.trans HK7.out.os, hb8.tape.trans HK7.out.tape, hb8.output.trans HK7.out.output, Nat.le_trans HK7.out.size hb8.size, fun i hi hm => (hb8.block i hi).trans (HK7.out.block i hi hm)⟩)
          clear ho8 tn8 TK hb8
          go_wp2_with fail
          go_ret2
          exact ⟨_, s6, rfl, by rw [HOUT2.out]; exact HO8.out.mono (by have := HS0.out; omega), HA8.out, (Kept.new HB0.out _).trans HK8.out, fun k hk => (HN6.out k hk).imp id (fun c => by have := HS0.out; omega), HR6.out, HOK6.out⟩
        | false =>
          rw [hT] at TA
          have HOUT2 := Lib.hid (show OUT = gatherS l (s.drop fr) by rw [HOUT.out, if_neg (fun c => by rw [hT] at c; exact absurd c.2 (by simp))])
          have GA := fun v' w' ho hb => Lib.hid (refTexts_any w0.heap.size fr v' l (s.drop fr) w' ho HL.out.okl (by omega) hb)
          clear HOUT hT
          generalize s.drop q = tq at *
          generalize hg3 : segS s fr at' = sh at *
          generalize s.drop at' = sd at *
          generalize s.drop fr = sf at *
          clear hg3
          go_upto_region 21 with fail
          refine wp_region_rch (fun w' => ∃ s'', Rch At F nq wr s' tq w' s'') (by kernel_rfl) (by kernel_rfl) ⟨s', (HI.out.start HL.out.ata tq).grow HI.out (Below_drew (Below.refl _ _))⟩ ?_
          repeat (go_big_quiet_step ((go_at_call 28; (try rw [HE.out]); exact rch_calls (TA.out _))))
          refine wpQuiet_nil ?_
          rintro w6 ⟨⟨w6b, s6, hr6⟩, hw6⟩
          have hw6b : w6 = w6b := hw6
          clear hw6
          subst hw6b
          have hn6 : ∀ k, F s6 k → F s0 k ∨ w0.heap.size ≤ k := fun k hk => (hr6.new k hk).elim (HL.out.new k) (fun c => .inr (Nat.le_trans HL.out.kept.size c))
          have hk6 : Kept (F s0) w0 w6 := ⟨hr6.kept.os.trans HL.out.kept.os, hr6.kept.tape.trans HL.out.kept.tape, hr6.kept.output.trans HL.out.kept.output, Nat.le_trans HL.out.kept.size hr6.kept.size, fun i hi hm => (hr6.kept.block i (Nat.lt_of_lt_of_le hi HL.out.kept.size) (fun e => (HL.out.new i e).elim hm (fun c => by omega))).trans (HL.out.kept.block i hi hm)⟩
          have HO6 := Lib.hid (HL.out.own.kept hr6.kept (fun g hg h => own_off_F HTY.out HL.out.own HL.out.ata h hg))
          have HA6 := Lib.hid hr6.at'
          have HN6 := Lib.hid hn6
          have HK6 := Lib.hid hk6
          have HR6 := Lib.hid (HRN.out _ _ _ HL.out.r hr6.nx)
          have HOK6 := Lib.hid (HOKD.out 3 s' tq s6 (HOKM.out _ _ _ HL.out.k (by omega)) hr6.nx)
          clear C0 C1 C2 C3 hr6 hn6 hk6 HPX TA c0 c1' c2' c3 KC
          go_wp2_with (first | (rw [HE3.out]) | fail)
          (try rw [HE3.out])
          rw [HCT3.out]
          refine (GA _ _ HO6.out HK6.out.size).out.mono ?_
          rintro e w7 ⟨v7, rfl, ho7, tn7⟩
          have HO7 := Lib.hid ho7
          have HA7 := Lib.hid (HI.out.kept _ _ _ _ HA6.out tn7.kept (fun k hk => own_off_F HTY.out HO6.out HA6.out hk))
          have hb7 : Below w0.heap.size w6 w7 := tn7.bel
          have HK7 := Lib.hid (show Kept (F s0) w0 w7 from ⟨hb7.os.trans HK6.out.os, hb7.tape.trans HK6.out.tape, hb7.output.trans HK6.out.output, Nat.le_trans HK6.out.size hb7.size, fun i hi hm => (hb7.block i hi).trans (HK6.out.block i hi hm)⟩)
          clear ho7 tn7 GA hb7
          go_wp2_with fail
          go_ret2
          exact ⟨_, s6, rfl, by rw [HOUT2.out]; exact HO7.out.mono (by have := HS0.out; omega), HA7.out, (Kept.new HB0.out _).trans HK7.out, fun k hk => (HN6.out k hk).imp id (fun c => by have := HS0.out; omega), HR6.out, HOK6.out⟩
      · have WA : IntKind.i64.wrap ((s.length : Int) - (at' : Int)) = (s.length : Int) - (at' : Int) := by rw [IntKind.wrap_i64]; omega
        have qc : ¬ (r : Int) ≤ (s.length : Int) - (at' : Int) := by omega
        have qcd : decide ((r : Int) ≤ (s.length : Int) - (at' : Int)) = false := decide_eq_false qc
        have HE3 := Lib.hid (show (⟨s.toArray⟩ : ByteArray).extract at' s.length = ⟨(s.drop at').toArray⟩ from drop_toArray s at' s.length (Nat.le_refl _))
        have HSL3 := Lib.hid (show (⟨(s.drop at').toArray⟩ : ByteArray).size = (s.drop at').length from rfl)
        have hsl3 : (s.drop at').length = s.length - at' := List.length_drop
        have HCT3 := Lib.hid (str_cat (segS s fr at') (s.drop at') (s.drop fr) (by rw [← seg_drop, ← seg_drop, seg_join s fr at' s.length (by omega) (by omega)]))
        have hdf : (s.drop fr).length = s.length - fr := List.length_drop
        have HOUT2 := Lib.hid (show OUT = gatherS l (s.drop fr) by rw [HOUT.out, if_neg (fun c => hc (HEQ.out.1 c.1))])
        have GA := fun v' w' ho hb => Lib.hid (refTexts_any w0.heap.size fr v' l (s.drop fr) w' ho HL.out.okl (by omega) hb)
        have ia : (at' : Int) ≤ (s.length : Int) := by omega
        clear HOUT
        generalize hg3 : segS s fr at' = sh at *
        generalize s.drop at' = sd at *
        generalize s.drop fr = sf at *
        clear hg3
        go_upto_region 21 with fail
        go_quiet (fail)
        have hbq := Below_drewN (Below.refl wr.heap.size wr) nq
        have HO6 := Lib.hid (HL.out.own.new hbq)
        have HA6 := Lib.hid (HI.out.grow HL.out.ata hbq)
        have HN6 := Lib.hid HL.out.new
        have HK6 := Lib.hid (HL.out.kept.trans (Kept.new hbq _))
        have HR6 := Lib.hid HL.out.r
        have HOK6 := Lib.hid (HOKM.out _ 3 _ HL.out.k (by omega))
        obtain ⟨s6, hs6⟩ : ∃ s6, s6 = s' := ⟨_, rfl⟩
        rw [← hs6] at HA6 HN6 HR6 HOK6
        clear hbq c0 c1' c2' c3 KC hs6
        generalize wr.drewN nq = w6 at *
        go_wp2_with (first | (rw [HE3.out]) | fail)
        (try rw [HE3.out])
        rw [HCT3.out]
        refine (GA _ _ HO6.out HK6.out.size).out.mono ?_
        rintro e w7 ⟨v7, rfl, ho7, tn7⟩
        have HO7 := Lib.hid ho7
        have HA7 := Lib.hid (HI.out.kept _ _ _ _ HA6.out tn7.kept (fun k hk => own_off_F HTY.out HO6.out HA6.out hk))
        have hb7 : Below w0.heap.size w6 w7 := tn7.bel
        have HK7 := Lib.hid (show Kept (F s0) w0 w7 from ⟨hb7.os.trans HK6.out.os, hb7.tape.trans HK6.out.tape, hb7.output.trans HK6.out.output, Nat.le_trans HK6.out.size hb7.size, fun i hi hm => (hb7.block i hi).trans (HK6.out.block i hi hm)⟩)
        clear ho7 tn7 GA hb7
        go_wp2_with fail
        go_ret2
        exact ⟨_, s6, rfl, by rw [HOUT2.out]; exact HO7.out.mono (by have := HS0.out; omega), HA7.out, (Kept.new HB0.out _).trans HK7.out, fun k hk => (HN6.out k hk).imp id (fun c => by have := HS0.out; omega), HR6.out, HOK6.out⟩
end Go.Proofs.YtcbodpcekjngbaaGreat
