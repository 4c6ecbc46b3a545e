/- Several texts in one: CloneStW, Small7W, ChainKeptW, ChainComposesW, ArgDelS, ChainFoldsW. -/
import Derived.Test.YtpkgjokehgihjaaDelX
import Derived.Test.YtpkgjokehgihjaaGen
import Derived.Test.YtpkgjokehgihjaaProg
import Derived.Test.YtpkgjokehgihjaaRollMath
import Derived.Test.YtpkgjokehgihjaaRowKeep
import Derived.Test.YtpkgjokehgihjaaSignMath
import Derived.Deep.AppendSrc
import Derived.Deep.Upon
import Derived.OpenShut
import Derived.ProofKit
import Derived.ShutString
import Derived.SizedLaws
import Derived.SliceStrings
import Derived.Test.YtpkgjokehgihjaaMkX
import Derived.Test.YtpkgjokehgihjaaTyX
import Derived.Test.YtpkgjokehgihjaaFrame
import Derived.Test.YtpkgjokehgihjaaMarkMath
import Derived.Test.YtpkgjokehgihjaaOwnL
import Derived.Test.YtpkgjokehgihjaaRightDW
import Derived.Test.YtpkgjokehgihjaaRows
import Derived.Test.YtpkgjokehgihjaaShelf
import Derived.Test.YtpkgjokehgihjaaSigAt
import Derived.Test.YtpkgjokehgihjaaStepW
import Derived.BigQuiet
import Derived.BigRegion
import Derived.Deep.CutBlock
import Derived.Deep.DeepCutAuto
import Derived.Deep.QuietTactic
import Derived.Deep.RegionLaw
import Derived.IntWalk
import Derived.Laws.BitsAllLaws
import Derived.Laws.Rows
import Derived.Laws.Tables
import Derived.Lib.Hide
import Derived.Outline
import Derived.StillTailTactics
import Derived.WalkKit
import Derived.WalkLawsBesides
import Derived.WalkSpells
import Derived.Test.YtpkgjokehgihjaaAgX
import Derived.Test.YtpkgjokehgihjaaTabX
import Derived.Test.YtpkgjokehgihjaaBookW
import Derived.Test.YtpkgjokehgihjaaSrX
import Derived.Test.YtpkgjokehgihjaaNewTabW
import Derived.Test.YtpkgjokehgihjaaCdX
import Derived.Test.YtpkgjokehgihjaaSameW
import Derived.Test.YtpkgjokehgihjaaSigOfW
import Derived.Test.YtpkgjokehgihjaaSortX
import Derived.Test.YtpkgjokehgihjaaSortEW
import Derived.Test.YtpkgjokehgihjaaSeX
import Derived.ChangeAlike
import Derived.Deep.LoopGhost
import Derived.Deep.RegionHeld3
import Derived.Laws.MakeOwn
import Derived.Lib.SmallJoins
import Derived.RegionTactic
import Derived.Sort.Walk0
import Derived.Test.YtpkgjokehgihjaaBldShelf
import Derived.Test.YtpkgjokehgihjaaR7X
import Derived.Test.YtpkgjokehgihjaaRollX
import Derived.Laws.Externs
import Derived.Lib.AppendStr
import Derived.Lib.Builder
import Derived.Lib.Strings
import Derived.Lib.Walk
import Derived.Maps.AppendAt
import Derived.Deep.AppendLies
import Derived.Test.YtpkgjokehgihjaaRfX
import Derived.Test.YtpkgjokehgihjaaOdX
import Derived.Deep.Slices
import Derived.Deep.Strs
/- A list of steps appended whole to an empty list of the call's own: a clone. Of no program. -/
set_option linter.unusedVariables false
namespace Go.Proofs.Ytpkgjokehgihjaa
open Go.RowKit

theorem flat_at (l : List DSt) (j : Nat) (u : Value) (h : (flatC l)[j]? = some u) : ∃ (i : Nat) (hi : i < l.length), (j = i * 3 ∧ u = .int .i64 l[i].pos) ∨ (j = i * 3 + 1 ∧ u = .int .i64 l[i].len) ∨ (j = i * 3 + 2 ∧ u = .string ⟨l[i].txt.toArray⟩) := by
  have hj : j < l.length * 3 := by
    rw [← flat_len]
    exact (List.getElem?_eq_some_iff.1 h).1
  have hi : j / 3 < l.length := by omega
  obtain ⟨h0, h1, h2⟩ := flat_get l (j / 3) hi
  refine ⟨j / 3, hi, ?_⟩
  have : j = j / 3 * 3 ∨ j = j / 3 * 3 + 1 ∨ j = j / 3 * 3 + 2 := by omega
  rcases this with e | e | e
  · left; refine ⟨e, ?_⟩; rw [e, h0] at h; exact (Option.some.inj h).symm
  · right; left; refine ⟨e, ?_⟩; rw [e, h1] at h; exact (Option.some.inj h).symm
  · right; right; refine ⟨e, ?_⟩; rw [e, h2] at h; exact (Option.some.inj h).symm
section
variable {P : Program}
theorem append_clone {w0 : World} {ops : Array Oper} {rest : List Oper} {o : Oper} {a : Act} {Q : Exit → Act → World → Prop} (hgd : o.guard = none) (s x : Operand) (t : TypeId) (z : Value)
    (ho : o.op = .call { callee := .builtin .append, args := #[s, x], argTypes := #[t, t] }) (ht : P.underlying t = some (.slice 61))
    (hinfo : (P.info? 61).map (fun i => (i.zero, i.size, i.bytes)) = some (some z, 3, 32)) (hz : z.cells.size = 3)
    (N : Nat → Prop) (v : Value) (ys : List DSt) (hs : a.eval s = .slice (some ⟨w0.heap.size, 0, none⟩) 0 0) (hx : a.eval x = v) (hr : RowS N w0 v ys) (hlen : ys.length ≤ 2000000)
    (h : ∀ v' w', OwnS w' w0.heap.size v' ys → Below w0.heap.size w0 w' → wpList P ops Q rest (a.put o.dst v') w') :
    wpList P ops Q (o :: rest) a (w0.alloc (.cells #[] 61)) := by
  obtain ⟨i0, hi, hz0, hz1, hz2⟩ := info_parts hinfo
  have hb := below_self_alloc w0 (.cells #[] 61 (0, 0))
  have hg := heap_alloc_new w0 (.cells #[] 61 (0, 0))
  have hown : OwnS (w0.alloc (.cells #[] 61 (0, 0))) w0.heap.size (.slice (some ⟨w0.heap.size, 0, none⟩) 0 0) [] :=
    ⟨rfl, .inr ⟨w0.heap.size, 0, #[], rfl, Nat.le_refl _, hg, Nat.le_refl _, by unfold maxLen; omega, rfl, rfl⟩⟩
  have hr1 := hr.keep hb
  rcases Nat.eq_zero_or_pos ys.length with h0 | h0
  · obtain rfl : ys = [] := List.eq_nil_of_length_eq_zero h0
    obtain ⟨ad, c, rfl⟩ := hr.slice
    have hsrc : Src P i0.size t (.slice ad 0 c) 0 [] (w0.alloc (.cells #[] 61 (0, 0))) := by
      rcases ad with _ | ad
      · exact Src.ofNil _ ht c
      · exact Src.ofSlice _ ht ad 0 c [] (by simp) (by simp) (by simp)
    have hrun := run_append_nothing (P := P) (w0.alloc (.cells #[] 61 (0, 0))) t t o.type 61 i0 ht hi (some ⟨w0.heap.size, 0, none⟩) 0 0 (Nat.le_refl _) (.slice ad 0 c) hsrc
    refine wpList_plain hgd fun K hK' => ?_
    unfold Oper.wp
    simp [execOp, ho, resolve, invoke, builtin, hs, hx, hrun, Result.andThen]
    exact hK' _ _ (h _ _ hown hb)
  · obtain ⟨g, of, c, rfl, _, _⟩ := hr1.at h0
    refine wpList_append_own_at _ hgd s x t ho w0.heap.size _ i0 z 3 32 ht hi hz0 hz1 hz2 hz (by decide) _ 0 [] hs hown ⟨g, of, none⟩ ys.length c (flatC ys) hx (flat_len ys) ?_ ?_ (by unfold maxLen; omega) (by omega) hb.size ?_
    · intro j u hj
      obtain ⟨i, hi', hc⟩ := flat_at ys j u hj
      obtain ⟨g', o', c', hv, _, hst⟩ := hr1.at hi'
      injection hv with hv1 _ _
      injection hv1 with hv1
      injection hv1 with e1 e2
      subst e1
      subst e2
      have ea : ∀ k, (⟨g, of, none⟩ : Addr).add k = ⟨g, of + k, none⟩ := fun k => by unfold Addr.add; split <;> simp_all
      rw [ea]
      rcases hc with ⟨rfl, rfl⟩ | ⟨rfl, rfl⟩ | ⟨rfl, rfl⟩
      · exact hst.c0
      · rw [← Nat.add_assoc]; exact hst.c1
      · rw [← Nat.add_assoc]; exact hst.c2
    · intro u hu
      obtain ⟨j, hj, rfl⟩ := List.getElem_of_mem hu
      obtain ⟨i, hi', hc⟩ := flat_at ys j _ (List.getElem?_eq_getElem hj)
      rcases hc with ⟨_, e⟩ | ⟨_, e⟩ | ⟨_, e⟩ <;> rw [e] <;> rfl
    · intro v' w' hown' hgr _ hat
      rw [Nat.zero_add, List.nil_append] at hown'
      exact h v' w' hown' (hb.grown hgr hb.size (fun k hk => by simp [Value.ownBlock] at hk; omega))
end
end Go.Proofs.Ytpkgjokehgihjaa
/- The walks of the seventh layer's small and awake. -/
set_option linter.unusedVariables false
namespace Go.Proofs.Ytpkgjokehgihjaa
open Go.RowKit

/-! ### awake -/
def awkL : List DSt := [⟨0, 0, [97]⟩, ⟨0, 0, [98]⟩, ⟨0, 4, []⟩, ⟨4, 2, []⟩]
theorem awk_tidy : tidyS awkL = [⟨0, 0, [97, 98]⟩, ⟨0, 6, []⟩] := by
  have e : gatherS [] [97, 98] = [txtSt [97, 98]] := by rw [gather_cons _ _ (by decide)]; exact gather_nil _
  have s2 : ([⟨0, 0, [97]⟩, ⟨0, 0, [98]⟩] : List DSt).foldl tidX ([], []) = ([], [97, 98]) := rfl
  have s3 : tidX (([], [97, 98]) : List DSt × Txt) ⟨0, 4, []⟩ = (takeS (gatherS [] [97, 98]) 0 4, []) := rfl
  have s4 : tidX (([txtSt [97, 98], ⟨0, 4, []⟩], []) : List DSt × Txt) ⟨4, 2, []⟩ = (takeS (gatherS [txtSt [97, 98], ⟨0, 4, []⟩] []) 4 2, []) := rfl
  have t1 : takeS [txtSt [97, 98]] 0 4 = [txtSt [97, 98], ⟨0, 4, []⟩] := rfl
  show tidE ((([⟨0, 4, []⟩, ⟨4, 2, []⟩] : List DSt)).foldl tidX (([⟨0, 0, [97]⟩, ⟨0, 0, [98]⟩] : List DSt).foldl tidX ([], []))) = _
  rw [s2, List.foldl_cons, s3, e, t1, List.foldl_cons, s4, gather_nil, List.foldl_nil]
  show gatherS (takeS [txtSt [97, 98], ⟨0, 4, []⟩] 4 2) [] = _
  rw [gather_nil]
  rfl
set_option maxRecDepth 100000 in
set_option maxHeartbeats 1000000 in
theorem awake7_any (w : World) : Calls Try.prog 22 #[] w fun e w' => e = .returned (.bool true) ∧ Below w.heap.size w w' := by
  have hb := below_self_alloc w (.cells #[.int .i64 0, .int .i64 0, .string ⟨#[97]⟩, .int .i64 0, .int .i64 0, .string ⟨#[98]⟩, .int .i64 0, .int .i64 4, .string ⟨#[]⟩, .int .i64 4, .int .i64 2, .string ⟨#[]⟩] 61 (0, 0))
  have hg := heap_alloc_new w (.cells #[.int .i64 0, .int .i64 0, .string ⟨#[97]⟩, .int .i64 0, .int .i64 0, .string ⟨#[98]⟩, .int .i64 0, .int .i64 4, .string ⟨#[]⟩, .int .i64 4, .int .i64 2, .string ⟨#[]⟩] 61 (0, 0))
  have hrow : RowS (fun _ => True) (w.alloc (.cells #[.int .i64 0, .int .i64 0, .string ⟨#[97]⟩, .int .i64 0, .int .i64 0, .string ⟨#[98]⟩, .int .i64 0, .int .i64 4, .string ⟨#[]⟩, .int .i64 4, .int .i64 2, .string ⟨#[]⟩] 61 (0, 0))) (.slice (some ⟨w.heap.size, 0, none⟩) 4 4) awkL := by
    refine ⟨_, _, rfl, fun i hi => ⟨w.heap.size, 0, rfl, trivial, ?_⟩⟩
    match i, hi with
    | 0, _ => exact ⟨by rw [cell_of_row _ _ _ _ _ _ hg]; rfl, by rw [cell_of_row _ _ _ _ _ _ hg]; rfl, by rw [cell_of_row _ _ _ _ _ _ hg]; rfl⟩
    | 1, _ => exact ⟨by rw [cell_of_row _ _ _ _ _ _ hg]; rfl, by rw [cell_of_row _ _ _ _ _ _ hg]; rfl, by rw [cell_of_row _ _ _ _ _ _ hg]; rfl⟩
    | 2, _ => exact ⟨by rw [cell_of_row _ _ _ _ _ _ hg]; rfl, by rw [cell_of_row _ _ _ _ _ _ hg]; rfl, by rw [cell_of_row _ _ _ _ _ _ hg]; rfl⟩
    | 3, _ => exact ⟨by rw [cell_of_row _ _ _ _ _ _ hg]; rfl, by rw [cell_of_row _ _ _ _ _ _ hg]; rfl, by rw [cell_of_row _ _ _ _ _ _ hg]; rfl⟩
  have TD := Lib.hid (tidy_any (fun _ => True) _ awkL _ hrow (fun x hx => by
    simp only [awkL, List.mem_cons, List.not_mem_nil, or_false] at hx
    rcases hx with rfl | rfl | rfl | rfl <;> exact ⟨by decide, by decide, by decide, by decide, by decide⟩) (by decide) (by decide))
  rw [awk_tidy] at TD
  have HB := Lib.hid hb
  clear hb hg hrow
  go_enter Try.func22, Try.ntmps22
  go_wp2_with fail
  refine TD.out.mono ?_
  rintro e w2 ⟨v', rfl, ho, hb2⟩
  have HB2 := Lib.hid (HB.out.trans (hb2.mono HB.out.size))
  obtain ⟨g, o, c, rfl, _, h0⟩ := ho.row.at (i := 0) (by decide)
  obtain ⟨g', o', c', hv, _, h1⟩ := ho.row.at (i := 1) (by decide)
  injection hv with hv1 _ _
  injection hv1 with hv1
  injection hv1 with e1 e2
  subst e1
  subst e2
  obtain ⟨x0, x1, x2⟩ := h0
  obtain ⟨y0, y1, y2⟩ := h1
  have x2' : w2.cell? ⟨g, o + 0 * 3 + 2, none⟩ = some (.string ⟨#[97, 98]⟩) := x2
  have y0' : w2.cell? ⟨g, o + 1 * 3, none⟩ = some (.int .i64 0) := y0
  have y1' : w2.cell? ⟨g, o + 1 * 3 + 1, none⟩ = some (.int .i64 6) := y1
  have y2' : w2.cell? ⟨g, o + 1 * 3 + 2, none⟩ = some (.string ⟨#[]⟩) := y2
  clear x0 x1 x2 y0 y1 y2 ho hb2
  simp only [Nat.zero_mul, Nat.one_mul, Nat.add_zero, Nat.add_assoc, Nat.reduceAdd] at x2' y0' y1' y2'
  go_wp2_with fail
  go_ret
  exact ⟨rfl, HB2.out⟩
/-! ### small -/
structure SmallL (l : List DSt) : Prop where
  len : l.length ≤ 100
  wt : wtA l ≤ 6000
def SmallP (l : List DSt) (w : World) (e : Ending) (w' : World) : Prop := ∃ b : Bool, e = .returned (.bool b) ∧ (b = true → SmallL l) ∧ Below w.heap.size w w'
set_option maxRecDepth 100000 in
set_option maxHeartbeats 1000000 in
theorem small7_any (N : Nat → Prop) (bm mm : Txt) (n : Int) (v : Value) (l : List DSt) (w : World) (h : RowS N w v l) (hok : ∀ x ∈ l, StOk x) (hl : l.length ≤ 140737488351232) :
    Calls Try.prog 21 #[delW bm mm n v] w (SmallP l w) := by
  have ba := below_self_alloc w (delO bm mm n v)
  obtain ⟨d0, d1, d2, d3⟩ := delO_cells (heap_alloc_new w (delO bm mm n v))
  have HR := Lib.hid (h.keep ba)
  have HB := Lib.hid ba
  have HK := Lib.hid hok
  obtain ⟨a, c, rfl⟩ := h.slice
  clear ba h hok
  go_enter Try.func21, Try.ntmps21
  go_wp2_with fail
  generalize w.alloc (.cells #[.string ⟨bm.toArray⟩, .string ⟨mm.toArray⟩, .int .i64 n, .slice a l.length c] 24) = w1 at *
  go_loopw [3, 4] (fun sn si wr => ∃ k : Nat, k ≤ l.length ∧ k ≤ 100 ∧ si = .int .i64 k ∧ sn = .int .i64 (wtA (l.take k) : Nat) ∧ wtA (l.take k) ≤ 6000 ∧ wr = w1) (fun _ si _ => l.length - (intOf si).toNat)
  case atStart => exact ⟨0, by omega, by omega, rfl, rfl, by simp [wtA], rfl⟩
  case round =>
    obtain ⟨k, hk, hk1, rfl, rfl, hw, rfl⟩ := hrel
    by_cases hlt : k < l.length
    · obtain ⟨g, o, c', hv, _, hst⟩ := HR.out.at hlt
      injection hv with hv1 hv2 hv3
      subst hv1
      clear hv2 hv3
      obtain ⟨e0, e1, e2⟩ := hst
      have hx := HK.out l[k] (List.getElem_mem _)
      have NX := Lib.hid (wt_take l k hlt)
      generalize l[k] = x at *
      have WX := Lib.hid (show wtS x = x.txt.length + x.len.toNat from rfl)
      have hx1 := hx.l1
      have hx2 := hx.l2
      have hx3 := hx.t
      obtain ⟨p, m, t⟩ := x
      dsimp only at e0 e1 e2 WX hx1 hx2 hx3
      have TL : (⟨t.toArray⟩ : ByteArray).size = t.length := rfl
      obtain ⟨q, hq⟩ : ∃ q, q = wtA (l.take k) := ⟨_, rfl⟩
      rw [← hq] at NX hw ⊢
      clear hq hx
      have i0 : (0 : Int) ≤ (k : Int) := by omega
      have i1 : (k : Int) < (l.length : Int) := by omega
      by_cases h1 : k < 100
      · have j1 : ¬ (100 : Int) ≤ (k : Int) := by omega
        by_cases h2 : m ≤ 3000
        · have j2 : ¬ (3000 : Int) < m := by omega
          by_cases h3 : t.length ≤ 4096
          · have j3 : ¬ (4096 : Int) < (t.length : Int) := by omega
            have W1 : IntKind.i64.wrap ((q : Int) + (t.length : Int)) = (q : Int) + (t.length : Int) := by rw [IntKind.wrap_i64]; omega
            by_cases h4 : 0 < m
            · have W2 : IntKind.i64.wrap ((q : Int) + (t.length : Int) + m) = (q : Int) + (t.length : Int) + m := by rw [IntKind.wrap_i64]; omega
              have HWN := Lib.hid (show wtA (l.take (k + 1)) = q + (t.length + m.toNat) by rw [NX.out, WX.out])
              by_cases h5 : q + (t.length + m.toNat) ≤ 6000
              · have j5 : ¬ (6000 : Int) < (q : Int) + (t.length : Int) + m := by omega
                go_wp2_with fail
                go_roundw
                case rel => exact ⟨k + 1, by omega, by omega, by go_num, by rw [HWN.out]; first | rfl | (congr 1; omega), by rw [HWN.out]; exact h5, by first | rfl | trivial⟩
                case measure => simp [intOf]; omega
              · have j5 : (6000 : Int) < (q : Int) + (t.length : Int) + m := by omega
                go_wp2_with fail
                go_ret
                exact ⟨false, rfl, fun h => (by cases h), HB.out⟩
            · have HWN := Lib.hid (show wtA (l.take (k + 1)) = q + t.length by rw [NX.out, WX.out]; omega)
              by_cases h5 : q + t.length ≤ 6000
              · have j5 : ¬ (6000 : Int) < (q : Int) + (t.length : Int) := by omega
                go_wp2_with fail
                go_roundw
                case rel => exact ⟨k + 1, by omega, by omega, by go_num, by rw [HWN.out]; first | rfl | (congr 1; omega), by rw [HWN.out]; exact h5, by first | rfl | trivial⟩
                case measure => simp [intOf]; omega
              · have j5 : (6000 : Int) < (q : Int) + (t.length : Int) := by omega
                go_wp2_with fail
                go_ret
                exact ⟨false, rfl, fun h => (by cases h), HB.out⟩
          · have j3 : (4096 : Int) < (t.length : Int) := by omega
            go_wp2_with fail
            go_ret
            exact ⟨false, rfl, fun h => (by cases h), HB.out⟩
        · have j2 : (3000 : Int) < m := by omega
          go_wp2_with fail
          go_ret
          exact ⟨false, rfl, fun h => (by cases h), HB.out⟩
      · have j1 : (100 : Int) ≤ (k : Int) := by omega
        go_wp2_with fail
        go_ret
        exact ⟨false, rfl, fun h => (by cases h), HB.out⟩
    · obtain rfl : k = l.length := by omega
      have i1 : ¬ (l.length : Int) < (l.length : Int) := by omega
      rw [List.take_length] at hw
      have HS := Lib.hid (show SmallL l from ⟨hk1, hw⟩)
      go_wp2_with fail
      go_ret
      exact ⟨true, rfl, fun _ => HS.out, HB.out⟩
end Go.Proofs.Ytpkgjokehgihjaa
/- The walk of the law ChainKept. -/
set_option linter.unusedVariables false
namespace Go.Proofs.Ytpkgjokehgihjaa
open Go.RowKit

/-- The two boxes of a law on two deltas. -/
structure TwoB (w : World) (a b : DD) (v1 v2 : Value) (wr : World) : Prop where
  xa : wr.heap[w.heap.size]? = some (a.o v1)
  xb : wr.heap[w.heap.size + 1]? = some (b.o v2)
  bel : Below w.heap.size w wr
theorem TwoB.new {w wr wr' : World} {a b : DD} {v1 v2 : Value} (h : TwoB w a b v1 v2 wr) (hb : Below wr.heap.size wr wr') : TwoB w a b v1 v2 wr' :=
  ⟨old_of hb h.xa, old_of hb h.xb, h.bel.trans (hb.mono h.bel.size)⟩
theorem two_start (w : World) (a b : DD) (v1 v2 : Value) : TwoB w a b v1 v2 ((w.alloc (a.o v1)).alloc (b.o v2)) := by
  have b1 := below_self_alloc w (a.o v1)
  have b2 := below_self_alloc (w.alloc (a.o v1)) (b.o v2)
  have g2 := heap_alloc_new (w.alloc (a.o v1)) (b.o v2)
  rw [show (w.alloc (a.o v1)).heap.size = w.heap.size + 1 by simp] at g2
  exact ⟨old_of b2 (heap_alloc_new w (a.o v1)), g2, b1.trans (b2.mono b1.size)⟩
theorem dd_open {w : World} {v : Value} (h : DIn w v) : ∃ (d : DD) (c : Value), v = d.v c ∧ RowS (fun _ => True) w c d.l ∧ (∀ x ∈ d.l, StOk x) ∧ d.l.length ≤ 140737488351232 ∧ d.bm.length ≤ 140737488351232 ∧ d.mm.length ≤ 140737488351232 ∧ -9223372036854775808 ≤ d.n ∧ d.n ≤ 9223372036854775807 ∧ ∃ a k, c = .slice a d.l.length k ∧ d.l.length ≤ k := by
  obtain ⟨bm, mm, n, c, xs, hd⟩ := h
  have h1 := hd.st.len
  exact ⟨⟨bm, mm, n, xs⟩, c, hd.val, hd.st.row.mono (fun _ _ => trivial), hd.st.ok, by show xs.length ≤ _; omega, hd.b1, hd.b2, hd.bn.1, hd.bn.2, hd.st.cap⟩
theorem two_row {w : World} {a b : DD} {v1 v2 : Value} (h1 : RowS (fun _ => True) w v1 a.l) (h2 : RowS (fun _ => True) w v2 b.l) :
    RowD (w.alloc (.cells #[.string ⟨a.bm.toArray⟩, .string ⟨a.mm.toArray⟩, .int .i64 a.n, v1, .string ⟨b.bm.toArray⟩, .string ⟨b.mm.toArray⟩, .int .i64 b.n, v2] 24 (0, 0))) (.slice (some ⟨w.heap.size, 0, none⟩) 2 2) [a, b] := by
  have hb := below_self_alloc w (.cells #[.string ⟨a.bm.toArray⟩, .string ⟨a.mm.toArray⟩, .int .i64 a.n, v1, .string ⟨b.bm.toArray⟩, .string ⟨b.mm.toArray⟩, .int .i64 b.n, v2] 24 (0, 0))
  have hg := heap_alloc_new w (.cells #[.string ⟨a.bm.toArray⟩, .string ⟨a.mm.toArray⟩, .int .i64 a.n, v1, .string ⟨b.bm.toArray⟩, .string ⟨b.mm.toArray⟩, .int .i64 b.n, v2] 24 (0, 0))
  refine ⟨_, _, rfl, Nat.le_refl _, fun i hi => ?_⟩
  match i, hi with
  | 0, _ => exact ⟨w.heap.size, 0, v1, rfl, ⟨by rw [cell_of_row _ _ _ _ _ _ hg]; rfl, by rw [cell_of_row _ _ _ _ _ _ hg]; rfl, by rw [cell_of_row _ _ _ _ _ _ hg]; rfl, by rw [cell_of_row _ _ _ _ _ _ hg]; rfl⟩, h1.keep hb⟩
  | 1, _ => exact ⟨w.heap.size, 0, v2, rfl, ⟨by rw [cell_of_row _ _ _ _ _ _ hg]; rfl, by rw [cell_of_row _ _ _ _ _ _ hg]; rfl, by rw [cell_of_row _ _ _ _ _ _ hg]; rfl, by rw [cell_of_row _ _ _ _ _ _ hg]; rfl⟩, h2.keep hb⟩
set_option maxRecDepth 100000 in
set_option maxHeartbeats 1000000 in
theorem chainKept_walk (u1 u2 : Value) (w : World) (h1 : DIn w u1) (h2 : DIn w u2) :
    Calls Try.prog 11 #[u1, u2] w fun e w' => e = .returned (.bool true) ∧ Below w.heap.size w w' := by
  obtain ⟨a, v1, rfl, ra, oka, la, ba, ma, na1, na2, xa1, ka1, rfl, _⟩ := dd_open h1
  obtain ⟨b, v2, rfl, rb, okb, lb, bb, mb, nb1, nb2, xb1, kb1, rfl, _⟩ := dd_open h2
  have T0 := Lib.hid (two_start w a b (.slice xa1 a.l.length ka1) (.slice xb1 b.l.length kb1))
  have RA := Lib.hid ra
  have RB := Lib.hid rb
  have SA := fun w' (hb : Below w.heap.size w w') => Lib.hid (small7_any _ a.bm a.mm a.n _ a.l w' (ra.keep hb) oka la)
  have SB := fun w' (hb : Below w.heap.size w w') => Lib.hid (small7_any _ b.bm b.mm b.n _ b.l w' (rb.keep hb) okb lb)
  have DA := Lib.hid (fun (h : SmallL a.l) => (show a.Ok from ⟨oka, by have := h.len; omega, ba, ma, na1, na2⟩))
  have DB := Lib.hid (fun (h : SmallL b.l) => (show b.Ok from ⟨okb, by have := h.len; omega, bb, mb, nb1, nb2⟩))
  clear h1 h2 ra rb oka okb la lb ba bb ma mb na1 na2 nb1 nb2
  obtain ⟨bm1, mm1, n1, l1⟩ := a
  obtain ⟨bm2, mm2, n2, l2⟩ := b
  dsimp only [DD.v, DD.o] at *
  go_enter Try.func11, Try.ntmps11
  go_upto_region 1 with fail
  generalize (w.alloc (.cells #[.string ⟨bm1.toArray⟩, .string ⟨mm1.toArray⟩, .int .i64 n1, .slice xa1 l1.length ka1] 24)).alloc (.cells #[.string ⟨bm2.toArray⟩, .string ⟨mm2.toArray⟩, .int .i64 n2, .slice xb1 l2.length kb1] 24) = w1 at *
  obtain ⟨a0, a1, a2, a3⟩ := delO_cells T0.out.xa
  go_wp2_with fail
  refine (SA _ T0.out.bel).out.mono ?_
  rintro e w2 ⟨ra, rfl, hra, hb2⟩
  have T2 := Lib.hid (T0.out.new hb2)
  clear a0 a1 a2 a3 T0 hb2 SA
  cases ra with
  | false =>
    go_wp2_with fail
    refine (awake7_any _).mono ?_
    rintro e w3 ⟨rfl, hb3⟩
    have T3 := Lib.hid (T2.out.new hb3)
    clear T2 hb3
    go_wp2_with fail
    go_ret
    exact ⟨rfl, T3.out.bel⟩
  | true =>
    obtain ⟨b0, b1, b2, b3⟩ := delO_cells T2.out.xb
    go_wp2_with fail
    refine (SB _ T2.out.bel).out.mono ?_
    rintro e w3 ⟨rb, rfl, hrb, hb3⟩
    have T3 := Lib.hid (T2.out.new hb3)
    clear b0 b1 b2 b3 T2 hb3 SB
    cases rb with
    | false =>
      go_wp2_with fail
      refine (awake7_any _).mono ?_
      rintro e w4 ⟨rfl, hb4⟩
      have T4 := Lib.hid (T3.out.new hb4)
      clear T3 hb4
      go_wp2_with fail
      go_ret
      exact ⟨rfl, T4.out.bel⟩
    | true =>
      have sa : SmallL l1 := by simpa using hra
      have sb : SmallL l2 := by simpa using hrb
      have oka := DA.out sa
      have okb := DB.out sb
      have wa := sa.wt
      have wb := sb.wt
      have ha1 := sa.len
      have hb1 := sb.len
      clear DA DB hra hrb
      obtain ⟨a0, a1, a2, a3⟩ := delO_cells (T3.out.new (below_self_alloc w3 (.cells #[] 61 (0, 0)))).xa
      go_wp2_with (first | (at_builtin; refine append_clone (w0 := w3) (by rfl) (.tmp 16) (.tmp 18) 22 _ (by rfl) Try.underlying22 info_step (by rfl) _ _ l1 (by rfl) (by rfl) (RA.out.keep T3.out.bel) (by omega) ?_; intro vx w4 hox hb4; have T4 := Lib.hid (T3.out.new hb4); have OX := Lib.hid hox.row; clear hox hb4 a0 a1 a2 a3; obtain ⟨b0, b1, b2, b3⟩ := delO_cells (T4.out.new (below_self_alloc w4 (.cells #[] 61 (0, 0)))).xb) | (at_builtin; refine append_clone (w0 := w4) (by rfl) (.tmp 20) (.tmp 22) 22 _ (by rfl) Try.underlying22 info_step (by rfl) _ _ l2 (by rfl) (by rfl) (RB.out.keep T4.out.bel) (by omega) ?_; intro vy w5 hoy hb5; have T5 := Lib.hid (T4.out.new hb5); have OY := Lib.hid hoy.row; have OX5 := Lib.hid (OX.out.keep hb5); clear hoy hb5 OX b0 b1 b2 b3; obtain ⟨a0, a1, a2, a3⟩ := delO_cells T5.out.xa))
      refine (tidy_any _ _ l1 w5 (RA.out.keep T5.out.bel) oka.st (by omega) (by omega)).mono ?_
      rintro e w6 ⟨vt, rfl, _, hb6⟩
      have T6 := Lib.hid (T5.out.new hb6)
      have OX6 := Lib.hid (OX5.out.keep hb6)
      have OY6 := Lib.hid (OY.out.keep hb6)
      clear a0 a1 a2 a3 hb6 T5 OX5 OY T3 T4
      obtain ⟨a0, a1, a2, a3⟩ := delO_cells T6.out.xa
      obtain ⟨b0, b1, b2, b3⟩ := delO_cells T6.out.xb
      go_wp2_with fail
      refine (compose_any _ _ ⟨bm1, mm1, n1, l1⟩ ⟨bm2, mm2, n2, l2⟩ _ _ w6 (RA.out.keep T6.out.bel) (RB.out.keep T6.out.bel) oka okb).mono ?_
      rintro e w7 ⟨vc, rfl, _, hb7⟩
      have T7 := Lib.hid (T6.out.new hb7)
      have OX7 := Lib.hid (OX6.out.keep hb7)
      have OY7 := Lib.hid (OY6.out.keep hb7)
      clear a0 a1 a2 a3 b0 b1 b2 b3 hb7 T6 OX6 OY6
      obtain ⟨a0, a1, a2, a3⟩ := delO_cells T7.out.xa
      obtain ⟨b0, b1, b2, b3⟩ := delO_cells T7.out.xb
      have FO := Lib.hid (fold_any _ [⟨bm1, mm1, n1, l1⟩, ⟨bm2, mm2, n2, l2⟩] _ (two_row (a := ⟨bm1, mm1, n1, l1⟩) (b := ⟨bm2, mm2, n2, l2⟩) (RA.out.keep T7.out.bel) (RB.out.keep T7.out.bel)) (fun d hd => by simp only [List.mem_cons, List.not_mem_nil, or_false] at hd; rcases hd with rfl | rfl; exact oka; exact okb) (by simp))
      have hbq := below_self_alloc w7 (.cells #[.string ⟨bm1.toArray⟩, .string ⟨mm1.toArray⟩, .int .i64 n1, .slice xa1 l1.length ka1, .string ⟨bm2.toArray⟩, .string ⟨mm2.toArray⟩, .int .i64 n2, .slice xb1 l2.length kb1] 24 (0, 0))
      have T8 := Lib.hid (T7.out.new hbq)
      have OX8 := Lib.hid (OX7.out.keep hbq)
      have OY8 := Lib.hid (OY7.out.keep hbq)
      clear hbq T7 OX7 OY7
      go_wp2_with fail
      refine FO.out.mono ?_
      rintro e w9 ⟨vf, rfl, _, hb9⟩
      have T9 := Lib.hid (T8.out.new hb9)
      have OX9 := Lib.hid (OX8.out.keep hb9)
      have OY9 := Lib.hid (OY8.out.keep hb9)
      clear a0 a1 a2 a3 b0 b1 b2 b3 hb9 T8 OX8 OY8 FO
      obtain ⟨a0, a1, a2, a3⟩ := delO_cells T9.out.xa
      go_wp2_with fail
      refine (stepsEq_any _ _ _ _ l1 w9 OX9.out (RA.out.keep T9.out.bel) (by omega)).mono ?_
      rintro e wA ⟨rfl, hbA⟩
      have TA := Lib.hid (T9.out.new hbA)
      have OYA := Lib.hid (OY9.out.keep hbA)
      clear a0 a1 a2 a3 hbA T9 OX9 OY9
      obtain ⟨b0, b1, b2, b3⟩ := delO_cells TA.out.xb
      go_wp2_with fail
      refine (stepsEq_any _ _ _ _ l2 wA OYA.out (RB.out.keep TA.out.bel) (by omega)).mono ?_
      rintro e wB ⟨rfl, hbB⟩
      have TB := Lib.hid (TA.out.new hbB)
      clear b0 b1 b2 b3 hbB TA OYA
      go_wp2_with fail
      refine (awake7_any _).mono ?_
      rintro e wC ⟨rfl, hbC⟩
      have TC := Lib.hid (TB.out.new hbC)
      clear hbC TB
      go_wp2_with fail
      go_ret
      exact ⟨rfl, TC.out.bel⟩
end Go.Proofs.Ytpkgjokehgihjaa
/- The walk of the law ChainComposes. -/
set_option linter.unusedVariables false
namespace Go.Proofs.Ytpkgjokehgihjaa
open Go.RowKit

theorem comp_short (a b : DD) : (compR a b).1.l.length ≤ 1000000 := by
  by_cases h : (compR a b).2 = 0
  · exact (ok_right (comp_right h)).len
  · unfold compR at h ⊢
    split at h
    · rename_i c; rw [if_pos c]; simp [ddZ]
    rename_i c1
    rw [if_neg c1]
    split at h
    · rename_i c; rw [if_pos c]; simp [ddZ]
    rename_i c2
    rw [if_neg c2]
    split at h
    · rename_i c; rw [if_pos c]; simp [ddZ]
    · simp at h
set_option maxRecDepth 100000 in
set_option maxHeartbeats 400000 in
theorem chainComposes_walk (u1 u2 : Value) (w : World) (h1 : DIn w u1) (h2 : DIn w u2) :
    Calls Try.prog 6 #[u1, u2] w fun e w' => e = .returned (.bool true) ∧ Below w.heap.size w w' := by
  obtain ⟨a, v1, rfl, ra, oka, la, ba, ma, na1, na2, xa1, ka1, rfl, _⟩ := dd_open h1
  obtain ⟨b, v2, rfl, rb, okb, lb, bb, mb, nb1, nb2, xb1, kb1, rfl, _⟩ := dd_open h2
  have T0 := Lib.hid (two_start w a b (.slice xa1 a.l.length ka1) (.slice xb1 b.l.length kb1))
  have RA := Lib.hid ra
  have RB := Lib.hid rb
  have SA := fun w' (hb : Below w.heap.size w w') => Lib.hid (small7_any _ a.bm a.mm a.n _ a.l w' (ra.keep hb) oka la)
  have SB := fun w' (hb : Below w.heap.size w w') => Lib.hid (small7_any _ b.bm b.mm b.n _ b.l w' (rb.keep hb) okb lb)
  have DA := Lib.hid (fun (h : SmallL a.l) => (show a.Ok from ⟨oka, by have := h.len; omega, ba, ma, na1, na2⟩))
  have DB := Lib.hid (fun (h : SmallL b.l) => (show b.Ok from ⟨okb, by have := h.len; omega, bb, mb, nb1, nb2⟩))
  clear h1 h2 ra rb oka okb la lb ba bb ma mb na1 na2 nb1 nb2
  obtain ⟨bm1, mm1, n1, l1⟩ := a
  obtain ⟨bm2, mm2, n2, l2⟩ := b
  dsimp only [DD.v, DD.o] at *
  go_enter Try.func6, Try.ntmps6
  go_upto_region 1 with fail
  generalize (w.alloc (.cells #[.string ⟨bm1.toArray⟩, .string ⟨mm1.toArray⟩, .int .i64 n1, .slice xa1 l1.length ka1] 24)).alloc (.cells #[.string ⟨bm2.toArray⟩, .string ⟨mm2.toArray⟩, .int .i64 n2, .slice xb1 l2.length kb1] 24) = w1 at *
  obtain ⟨a0, a1, a2, a3⟩ := delO_cells T0.out.xa
  go_wp2_with fail
  refine (SA _ T0.out.bel).out.mono ?_
  rintro e w2 ⟨ra, rfl, hra, hb2⟩
  have T2 := Lib.hid (T0.out.new hb2)
  clear a0 a1 a2 a3 T0 hb2 SA
  cases ra with
  | false =>
    go_wp2_with fail
    refine (awake7_any _).mono ?_
    rintro e w3 ⟨rfl, hb3⟩
    have T3 := Lib.hid (T2.out.new hb3)
    clear T2 hb3
    go_wp2_with fail
    go_ret
    exact ⟨rfl, T3.out.bel⟩
  | true =>
    obtain ⟨b0, b1, b2, b3⟩ := delO_cells T2.out.xb
    go_wp2_with fail
    refine (SB _ T2.out.bel).out.mono ?_
    rintro e w3 ⟨rb, rfl, hrb, hb3⟩
    have T3 := Lib.hid (T2.out.new hb3)
    clear b0 b1 b2 b3 T2 hb3 SB
    cases rb with
    | false =>
      go_wp2_with fail
      refine (awake7_any _).mono ?_
      rintro e w4 ⟨rfl, hb4⟩
      have T4 := Lib.hid (T3.out.new hb4)
      clear T3 hb4
      go_wp2_with fail
      go_ret
      exact ⟨rfl, T4.out.bel⟩
    | true =>
      have sa : SmallL l1 := by simpa using hra
      have sb : SmallL l2 := by simpa using hrb
      have oka := DA.out sa
      have okb := DB.out sb
      have wa := sa.wt
      have wb := sb.wt
      have ha1 := sa.len
      have hb1 := sb.len
      clear DA DB hra hrb
      have CO := fun w' (hb : Below w.heap.size w w') => Lib.hid (compose_any _ _ ⟨bm1, mm1, n1, l1⟩ ⟨bm2, mm2, n2, l2⟩ _ _ w' (RA.out.keep hb) (RB.out.keep hb) oka okb)
      have RC := fun w' (hb : Below w.heap.size w w') => Lib.hid (refCompose_any _ _ ⟨bm1, mm1, n1, l1⟩ ⟨bm2, mm2, n2, l2⟩ _ _ w' (RA.out.keep hb) (RB.out.keep hb) oka okb)
      have HLC := Lib.hid (comp_short ⟨bm1, mm1, n1, l1⟩ ⟨bm2, mm2, n2, l2⟩)
      generalize compR ⟨bm1, mm1, n1, l1⟩ ⟨bm2, mm2, n2, l2⟩ = cr at *
      obtain ⟨⟨bmc, mmc, nc, lc⟩, ec⟩ := cr
      dsimp only at HLC
      clear wa wb ha1 hb1 sa sb oka okb
      obtain ⟨a0, a1, a2, a3⟩ := delO_cells T3.out.xa
      obtain ⟨b0, b1, b2, b3⟩ := delO_cells T3.out.xb
      go_wp2_with fail
      refine (CO _ T3.out.bel).out.mono ?_
      rintro e w4 ⟨vc, rfl, hoc, hb4⟩
      obtain ⟨vca, vcm, vcc, rfl⟩ := own_slice hoc
      have bx := below_self_alloc w4 (delO bmc mmc nc (.slice vca vcm vcc))
      have XC := Lib.hid (heap_alloc_new w4 (delO bmc mmc nc (.slice vca vcm vcc)))
      have T5 := Lib.hid ((T3.out.new hb4).new bx)
      have OC := Lib.hid ((hoc.new bx).row)
      clear T3 a0 a1 a2 a3 b0 b1 b2 b3 hb4 hoc bx CO
      obtain ⟨a0, a1, a2, a3⟩ := delO_cells T5.out.xa
      obtain ⟨b0, b1, b2, b3⟩ := delO_cells T5.out.xb
      go_wp2_with fail
      generalize hp4 : w4.heap.size = p4 at *
      generalize w4.alloc (.cells #[.string ⟨bmc.toArray⟩, .string ⟨mmc.toArray⟩, .int .i64 nc, .slice vca vcm vcc] 24) = w5 at *
      refine (RC _ T5.out.bel).out.mono ?_
      rintro e w6 ⟨vd, rfl, hod, hb6⟩
      obtain ⟨vda, vdm, vdc, rfl⟩ := own_slice hod
      have by6 := below_self_alloc w6 (delO bmc mmc nc (.slice vda vdm vdc))
      have XD := Lib.hid (heap_alloc_new w6 (delO bmc mmc nc (.slice vda vdm vdc)))
      have T7 := Lib.hid ((T5.out.new hb6).new by6)
      have OC7 := Lib.hid ((OC.out.keep hb6).keep by6)
      have OD7 := Lib.hid ((hod.new by6).row)
      have XC7 := Lib.hid (old_of by6 (old_of hb6 XC.out))
      clear T5 a0 a1 a2 a3 b0 b1 b2 b3 hb6 hod by6 RC OC XC
      obtain ⟨c0, c1, c2, c3⟩ := delO_cells XC7.out
      obtain ⟨d0, d1, d2, d3⟩ := delO_cells XD.out
      go_wp2_with fail
      refine (sameD_any _ _ bmc mmc nc _ _ lc _ OC7.out OD7.out (by have := HLC.out; omega)).mono ?_
      rintro e w8 ⟨rfl, hb8⟩
      have T8 := Lib.hid (T7.out.new hb8)
      have q1 : (ec == ec) = true := by simp
      clear c0 c1 c2 c3 d0 d1 d2 d3 hb8 T7 OC7 OD7 XC7 XD
      go_wp2_with fail
      refine (awake7_any _).mono ?_
      rintro e wC ⟨rfl, hbC⟩
      have TC := Lib.hid (T8.out.new hbC)
      clear hbC T8
      go_wp2_with fail
      go_ret
      exact ⟨rfl, TC.out.bel⟩
end Go.Proofs.Ytpkgjokehgihjaa
/- A list of deltas that came in: what a walk is told of it. -/
set_option linter.unusedVariables false
namespace Go.Proofs.Ytpkgjokehgihjaa
open Go.ChangeShapes Go.WideShapes Go.ChangeAt Go.RowKit

structure DD.In (d : DD) : Prop where
  st : ∀ x ∈ d.l, StOk x
  len : d.l.length ≤ 140737488351232
  b : d.bm.length ≤ 140737488351232
  m : d.mm.length ≤ 140737488351232
  n1 : -9223372036854775808 ≤ d.n
  n2 : d.n ≤ 9223372036854775807
/-- A list of deltas that came in. -/
def DsIn (W : World) (v : Value) : Prop := ∃ ds : List DD, RowD W v ds ∧ (∀ d ∈ ds, d.In) ∧ ds.length ≤ 140737488351232
theorem cells_four4 {w : World} {base : Nat} {a : Addr} {cs : List Value} (h : w.cells? base a 4 = some cs) : ∃ c0 c1 c2 c3, cs = [c0, c1, c2, c3] ∧ w.cell? (a.add 0) = some c0 ∧ w.cell? (a.add 1) = some c1 ∧ w.cell? (a.add 2) = some c2 ∧ w.cell? (a.add 3) = some c3 := by
  unfold World.cells? at h
  split at h
  · rw [show List.range 4 = [0, 1, 2, 3] from rfl] at h
    simp only [List.mapM_cons, List.mapM_nil] at h
    cases h0 : w.cell? (a.add 0) <;> simp [h0] at h
    cases h1 : w.cell? (a.add 1) <;> simp [h1] at h
    cases h2 : w.cell? (a.add 2) <;> simp [h2] at h
    cases h3 : w.cell? (a.add 3) <;> simp [h3] at h
    exact ⟨_, _, _, _, h.symm, rfl, rfl, rfl, rfl⟩
  · cases h

section
variable {H : Type} {enc : TypeId × Value → H} {P : Program} {W : World} {t u e ti ts tl : TypeId} {v : Value} {d : DataW H} {ps : List MemPlace} {base : Nat}

theorem delta_open {fuel : Nat} {x : DataW H × List MemPlace} {g0 g1 g2 g3 f0 f1 f2 : Field} (hst : P.underlying u = some (.struct #[g0, g1, g2, g3])) (hsl : P.underlying tl = some (.slice e)) (hs : P.underlying e = some (.struct #[f0, f1, f2])) (hint : P.underlying ti = some (.int .i64)) (hstr : P.underlying ts = some .string)
    (hg : g0.type = ts ∧ g1.type = ts ∧ g2.type = ti ∧ g3.type = tl ∧ g0.offset = 0 ∧ g1.offset = 1 ∧ g2.offset = 2 ∧ g3.offset = 3)
    (hf : f0.type = ti ∧ f1.type = ti ∧ f2.type = ts ∧ f0.offset = 0 ∧ f1.offset = 1 ∧ f2.offset = 2) (hcl : P.cellsOf tl = 1) (hce : P.cellsOf e = 3) (hci : P.cellsOf ti = 1) (hcs : P.cellsOf ts = 1) (hb : P.bytesOf e = 32)
    {c0 c1 c2 c3 : Value} (h : DataW.trod enc P W 0 (fun _ => true) true fuel u [c0, c1, c2, c3] = some x) (hw : ∀ n ∈ x.1.weights P u, n ≤ reachBytes) (hlt : ∀ y ∈ x.2, y.block < W.heap.size) :
    ∃ dd : DD, dd.In ∧ c0 = .string ⟨dd.bm.toArray⟩ ∧ c1 = .string ⟨dd.mm.toArray⟩ ∧ c2 = .int .i64 dd.n ∧ RowS (fun _ => True) W c3 dd.l := by
  obtain ⟨t0, t1, t2, t3, o0, o1, o2, o3⟩ := hg
  obtain ⟨y0, y1, y2, y3, n', hy, hlen, k0, k1, k2, k3⟩ := Joins.trod_struct4 hst h
  rw [t0, o0, hcs] at k0
  rw [t1, o1, hcs] at k1
  rw [t2, o2, hci] at k2
  rw [t3, o3, hcl] at k3
  simp at k0 k1 k2 k3
  obtain ⟨q0, e0, d0, _⟩ := DataW.trod_string hstr k0
  obtain ⟨q1, e1, d1, _⟩ := DataW.trod_string hstr k1
  obtain ⟨q2, e2, d2, w2⟩ := DataW.trod_int hint k2
  simp at e0 e1 e2
  subst e0; subst e1; subst e2
  subst hy
  have hww : ∀ (j : Nat) (f : Field) (x : DataW H), #[g0, g1, g2, g3].toList[j]? = some f → [y0.1, y1.1, y2.1, y3.1][j]? = some x → ∀ n ∈ x.weights P f.type, n ≤ reachBytes := by
    intro j f x hj hx n hn
    refine hw n ?_
    rw [DataW.weights, hst]
    refine DataW.weights_mem_each (j := j) (t := f.type) (d := x) ?_ hx n hn
    have hj' : [g0, g1, g2, g3][j]? = some f := hj
    show ([g0, g1, g2, g3].map (·.type))[j]? = _
    rw [List.getElem?_map, hj']
    rfl
  obtain ⟨xs, hxs⟩ := steps_open hsl hs hint hstr hf hce hci hcs hb k3 (by have := hww 3 g3 y3.1 rfl rfl; rwa [t3] at this) (fun y hy => hlt y (by simp [hy]))
  have l0 := hww 0 g0 y0.1 rfl rfl q0.data.toList.length (by rw [d0]; simp [DataW.weights])
  have l1 := hww 1 g1 y1.1 rfl rfl q1.data.toList.length (by rw [d1]; simp [DataW.weights])
  simp only [reachBytes] at l0 l1
  have hbd := bounds_i64 w2
  have hxl := hxs.len
  exact ⟨⟨q0.data.toList, q1.data.toList, q2, xs⟩, ⟨hxs.ok, by show xs.length ≤ _; omega, by simpa using l0, by simpa using l1, hbd.1, hbd.2⟩, by simp, by simp, rfl, hxs.row.mono (fun _ _ => trivial)⟩

theorem deltas_open {fuel : Nat} {c : Value} {x : DataW H × List MemPlace} {g0 g1 g2 g3 f0 f1 f2 : Field} (ht : P.underlying t = some (.slice u)) (hst : P.underlying u = some (.struct #[g0, g1, g2, g3])) (hsl : P.underlying tl = some (.slice e)) (hs : P.underlying e = some (.struct #[f0, f1, f2])) (hint : P.underlying ti = some (.int .i64)) (hstr : P.underlying ts = some .string)
    (hg : g0.type = ts ∧ g1.type = ts ∧ g2.type = ti ∧ g3.type = tl ∧ g0.offset = 0 ∧ g1.offset = 1 ∧ g2.offset = 2 ∧ g3.offset = 3)
    (hf : f0.type = ti ∧ f1.type = ti ∧ f2.type = ts ∧ f0.offset = 0 ∧ f1.offset = 1 ∧ f2.offset = 2) (hct : P.cellsOf u = 4) (hcl : P.cellsOf tl = 1) (hce : P.cellsOf e = 3) (hci : P.cellsOf ti = 1) (hcs : P.cellsOf ts = 1) (hb : P.bytesOf e = 32) (hbu : P.bytesOf u = 64)
    (h : DataW.trod enc P W 0 (fun _ => true) true fuel t [c] = some x) (hw : ∀ n ∈ x.1.weights P t, n ≤ reachBytes) (hlt : ∀ y ∈ x.2, y.block < W.heap.size) : DsIn W c := by
  rcases Deep.open_slice ht h with ⟨hcc, hx⟩ | ⟨x', len', cap', m, n, D, Pl, hcc', _, hl, hm, hmm, hx, hel⟩
  · simp at hcc
    subst hcc
    exact ⟨[], ⟨none, 0, rfl, by simp, fun i hi => absurd hi (Nat.not_lt_zero _)⟩, fun d hd => by simp at hd, by simp⟩
  · simp at hcc'
    subst hcc'
    subst hx
    simp only [if_true] at hmm
    subst hmm
    have plain : ∀ o j b : Nat, (⟨b, o, none⟩ : Addr).add j = ⟨b, o + j, none⟩ := fun o j b => by unfold Addr.add; split <;> simp_all
    have one : ∀ i, i < len' → ∃ y : DD, y.In ∧ ∃ g o vi, (some x' = some (⟨g, o, none⟩ : Addr)) ∧ DAt W g (o + i * 4) y vi ∧ RowS (fun _ => True) W vi y.l := by
      intro i hi
      have hspot : x'.spot = none := by
        obtain ⟨cs0, hc0, _⟩ := hel 0 (by omega)
        rw [hct] at hc0
        obtain ⟨_, _, _, _, _, k0, _⟩ := cells_four4 hc0
        have := World.cell?_spot k0
        simpa [Addr.add] using this
      obtain ⟨cs', hc1, hc2⟩ := hel i (by omega)
      rw [hct] at hc1
      obtain ⟨c0, c1, c2, c3, rfl, k0, k1, k2, k3⟩ := cells_four4 hc1
      obtain ⟨b, off, spot⟩ := x'
      simp only at hspot
      subst hspot
      rw [plain, plain] at k0 k1 k2 k3
      have hmem : D i ∈ (List.range len').map D := List.mem_map.2 ⟨i, List.mem_range.2 hi, rfl⟩
      obtain ⟨dd, hdd, rfl, rfl, rfl, hr⟩ := delta_open hst hsl hs hint hstr hg hf hcl hce hci hcs hb hc2 (fun n hn => hw n (by
        rw [DataW.weights, ht]
        exact List.mem_cons_of_mem _ (List.mem_append_left _ (mem_weightsAll P u _ _ hn _ hmem)))) (fun y hy => hlt y (List.mem_append_right _ (List.mem_flatMap.2 ⟨i, List.mem_range.2 (by omega), hy⟩)))
      exact ⟨dd, hdd, b, off, c3, rfl, ⟨by simpa using k0, k1, k2, k3⟩, hr⟩
    obtain ⟨xs, hxl, hxa⟩ := list_of _ len' one
    subst hxl
    refine ⟨xs, ⟨some x', m, rfl, by omega, fun i hi => ?_⟩, fun y hy => ?_, ?_⟩
    · obtain ⟨_, g, o, vi, h1, h2, h3⟩ := hxa i hi
      exact ⟨g, o, vi, h1, h2, h3⟩
    · obtain ⟨i, hi, rfl⟩ := List.getElem_of_mem hy
      exact (hxa i hi).1
    · have := hw (xs.length * 64 + (m - xs.length) * 64) (by
        simp [DataW.weights, ht, hbu, Nat.add_mul])
      simp only [reachBytes] at this
      omega

theorem arg_deltas {g0 g1 g2 g3 f0 f1 f2 : Field} (ht : P.underlying t = some (.slice u)) (hst : P.underlying u = some (.struct #[g0, g1, g2, g3])) (hsl : P.underlying tl = some (.slice e)) (hs : P.underlying e = some (.struct #[f0, f1, f2])) (hint : P.underlying ti = some (.int .i64)) (hstr : P.underlying ts = some .string)
    (hg : g0.type = ts ∧ g1.type = ts ∧ g2.type = ti ∧ g3.type = tl ∧ g0.offset = 0 ∧ g1.offset = 1 ∧ g2.offset = 2 ∧ g3.offset = 3)
    (hf : f0.type = ti ∧ f1.type = ti ∧ f2.type = ts ∧ f0.offset = 0 ∧ f1.offset = 1 ∧ f2.offset = 2) (hct : P.cellsOf u = 4) (hcl : P.cellsOf tl = 1) (hce : P.cellsOf e = 3) (hci : P.cellsOf ti = 1) (hcs : P.cellsOf ts = 1) (hb : P.bytesOf e = 32) (hbu : P.bytesOf u = 64)
    (hval : Value.okWide P W .any base t v) (h : DataW.Trod enc P W 0 (fun _ => true) true t v d ps) (hw : ∀ n ∈ d.weights P t, n ≤ reachBytes) (hlt : ∀ x ∈ ps, x.block < W.heap.size) : DsIn W v := by
  obtain ⟨a0, len, cap, rfl⟩ := okWide_slice ht hval
  obtain ⟨fuel, hfu⟩ := h
  exact deltas_open (x := (d, ps)) ht hst hsl hs hint hstr hg hf hct hcl hce hci hcs hb hbu hfu hw hlt
end
end Go.Proofs.Ytpkgjokehgihjaa
/- The walk of the law ChainFolds. -/
set_option linter.unusedVariables false
namespace Go.Proofs.Ytpkgjokehgihjaa
open Go.RowKit

theorem foldG_short (d : DD) (hd : d.l.length ≤ 1000000) (ds : List DD) : (foldG d ds).1.l.length ≤ 1000000 := by
  induction ds generalizing d with
  | nil => exact hd
  | cons x xs ih =>
    show (if (compR d x).2 ≠ 0 then (ddZ, (compR d x).2) else foldG (compR d x).1 xs).1.l.length ≤ _
    split
    · simp [ddZ]
    · exact ih _ (comp_short d x)
theorem foldR_short (ds : List DD) : (foldR ds).1.l.length ≤ 1000000 := by
  cases ds with
  | nil => simp [foldR, ddZ]
  | cons d ds =>
    show (if d.right = false then (ddZ, 1) else foldG (tidR d) ds).1.l.length ≤ _
    split
    · simp [ddZ]
    · rename_i h
      exact foldG_short _ (ok_right (tid_right (by simpa using h))).len ds
set_option maxRecDepth 100000 in
set_option maxHeartbeats 400000 in
theorem chainFolds_walk (v : Value) (w : World) (h : DsIn w v) :
    Calls Try.prog 7 #[v] w fun e w' => e = .returned (.bool true) ∧ Below w.heap.size w w' := by
  obtain ⟨ds, hr, hin, hl⟩ := h
  have HRD := Lib.hid hr
  have HIN := Lib.hid hin
  obtain ⟨a, c, rfl, hlc, _⟩ := hr
  clear hin hlc
  go_enter Try.func7, Try.ntmps7
  by_cases h8 : ds.length ≤ 8
  · have i8 : ¬ (8 : Int) < (ds.length : Int) := by omega
    go_wp2_with fail
    go_loopw [3] (fun si wr => ∃ k : Nat, k ≤ ds.length ∧ si = .int .i64 k ∧ (∀ i (hi : i < ds.length), i < k → SmallL ds[i].l) ∧ Below w.heap.size w wr) (fun si _ => ds.length - (intOf si).toNat)
    case atStart => exact ⟨0, by omega, rfl, fun i hi h => absurd h (Nat.not_lt_zero _), Below.refl _ _⟩
    case round =>
      obtain ⟨k, hk, rfl, hsm, hbel⟩ := hrel
      have HSM := Lib.hid hsm
      have HB := Lib.hid hbel
      clear hsm hbel
      by_cases hlt : k < ds.length
      · have i0 : (0 : Int) ≤ (k : Int) := by omega
        have i1 : (k : Int) < (ds.length : Int) := by omega
        have W4 : IntKind.i64.wrap ((k : Int) + 1) = (k : Int) + 1 := by rw [IntKind.wrap_i64]; omega
        obtain ⟨a', c', hv, _, hx⟩ := HRD.out.keep HB.out
        injection hv with hv1 hv2 hv3
        subst hv1
        clear hv2 hv3
        obtain ⟨g, o, vi, rfl, hat, hri⟩ := hx k hlt
        have hik := HIN.out ds[k] (List.getElem_mem _)
        have SM := Lib.hid (small7_any _ ds[k].bm ds[k].mm ds[k].n vi ds[k].l wr hri hik.st hik.len)
        obtain ⟨c0, c1, c2, c3⟩ := hat
        obtain ⟨va, vc, rfl⟩ := hri.slice
        have HKS := Lib.hid (fun (hs : SmallL ds[k].l) (i : Nat) (hi : i < ds.length) (hik : i < k + 1) => (show SmallL ds[i].l by
          rcases Nat.lt_or_ge i k with c | c
          · exact HSM.out i hi c
          · obtain rfl : i = k := by omega
            exact hs))
        clear hx hik hri
        generalize ds[k].bm = bmk at *
        generalize ds[k].mm = mmk at *
        generalize ds[k].n = nk at *
        generalize hlk : ds[k].l = lk at *
        go_wp2_with fail
        refine SM.out.mono ?_
        rintro e w2 ⟨rb, rfl, hrb, hb2⟩
        have HB2 := Lib.hid (HB.out.trans (hb2.mono HB.out.size))
        clear c0 c1 c2 c3 hb2 SM
        cases rb with
        | false =>
          go_wp2_with fail
          refine (awake7_any _).mono ?_
          rintro e w3 ⟨rfl, hb3⟩
          have HB3 := Lib.hid (HB2.out.trans (hb3.mono HB2.out.size))
          clear hb3
          go_wp2_with fail
          go_ret
          exact ⟨rfl, HB3.out⟩
        | true =>
          have hs : SmallL lk := by simpa using hrb
          have HS2 := Lib.hid (HKS.out hs)
          clear hs hrb HKS
          go_wp2_with fail
          go_roundw
          case rel => exact ⟨k + 1, by omega, by go_num, HS2.out, HB2.out⟩
          case measure => simp [intOf]; omega
      · obtain rfl : k = ds.length := by omega
        have i1 : ¬ (ds.length : Int) < (ds.length : Int) := by omega
        have OK := Lib.hid (fun d (hd : d ∈ ds) => (show d.Ok by
          have h1 := HIN.out d hd
          obtain ⟨i, hi, rfl⟩ := List.getElem_of_mem hd
          have h2 := (HSM.out i hi hi).len
          exact ⟨h1.st, by omega, h1.b, h1.m, h1.n1, h1.n2⟩))
        have CO := fun w' (hb : Below w.heap.size w w') => Lib.hid (fold_any _ ds w' (HRD.out.keep hb) OK.out (by omega))
        have RC := fun w' (hb : Below w.heap.size w w') => Lib.hid (refFold_any _ ds w' (HRD.out.keep hb) OK.out (by omega))
        have HLC := Lib.hid (foldR_short ds)
        generalize foldR ds = cr at *
        obtain ⟨⟨bmc, mmc, nc, lc⟩, ec⟩ := cr
        dsimp only at HLC
        clear HRD HIN HSM OK
        go_wp2_with fail
        refine (CO _ HB.out).out.mono ?_
        rintro e w4 ⟨vc, rfl, hoc, hb4⟩
        obtain ⟨vca, vcm, vcc, rfl⟩ := own_slice hoc
        have bx := below_self_alloc w4 (delO bmc mmc nc (.slice vca vcm vcc))
        have XC := Lib.hid (heap_alloc_new w4 (delO bmc mmc nc (.slice vca vcm vcc)))
        have HB5 := Lib.hid (HB.out.trans ((hb4.trans (bx.mono hb4.size)).mono HB.out.size))
        have OC := Lib.hid ((hoc.new bx).row)
        clear HB hb4 hoc bx CO
        go_wp2_with fail
        generalize hp4 : w4.heap.size = p4 at *
        generalize w4.alloc (.cells #[.string ⟨bmc.toArray⟩, .string ⟨mmc.toArray⟩, .int .i64 nc, .slice vca vcm vcc] 24) = w5 at *
        refine (RC _ HB5.out).out.mono ?_
        rintro e w6 ⟨vd, rfl, hod, hb6⟩
        obtain ⟨vda, vdm, vdc, rfl⟩ := own_slice hod
        have by6 := below_self_alloc w6 (delO bmc mmc nc (.slice vda vdm vdc))
        have XD := Lib.hid (heap_alloc_new w6 (delO bmc mmc nc (.slice vda vdm vdc)))
        have HB7 := Lib.hid (HB5.out.trans ((hb6.trans (by6.mono hb6.size)).mono HB5.out.size))
        have OC7 := Lib.hid ((OC.out.keep hb6).keep by6)
        have OD7 := Lib.hid ((hod.new by6).row)
        have XC7 := Lib.hid (old_of by6 (old_of hb6 XC.out))
        clear HB5 hb6 hod by6 RC OC XC
        obtain ⟨c0, c1, c2, c3⟩ := delO_cells XC7.out
        obtain ⟨d0, d1, d2, d3⟩ := delO_cells XD.out
        go_wp2_with fail
        refine (sameD_any _ _ bmc mmc nc _ _ lc _ OC7.out OD7.out (by have := HLC.out; omega)).mono ?_
        rintro e w8 ⟨rfl, hb8⟩
        have HB8 := Lib.hid (HB7.out.trans (hb8.mono HB7.out.size))
        have q1 : (ec == ec) = true := by simp
        clear c0 c1 c2 c3 d0 d1 d2 d3 hb8 HB7 OC7 OD7 XC7 XD
        go_wp2_with fail
        refine (awake7_any _).mono ?_
        rintro e wC ⟨rfl, hbC⟩
        have TC := Lib.hid (HB8.out.trans (hbC.mono HB8.out.size))
        clear hbC HB8
        go_wp2_with fail
        go_ret
        exact ⟨rfl, TC.out⟩
  · have i8 : (8 : Int) < (ds.length : Int) := by omega
    go_wp2_with fail
    refine (awake7_any _).mono ?_
    rintro e w3 ⟨rfl, hb3⟩
    go_wp2_with fail
    go_ret
    exact ⟨rfl, hb3⟩
end Go.Proofs.Ytpkgjokehgihjaa
