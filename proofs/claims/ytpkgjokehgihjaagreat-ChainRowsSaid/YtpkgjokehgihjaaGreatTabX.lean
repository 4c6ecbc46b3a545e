/- Several texts in one: SearchW, RunW, Run2W, BehindW, MatchW, MatMath, QuietBelow, TailQW. -/
import Derived.Test.YtpkgjokehgihjaaGreatBookW
import Derived.Test.YtpkgjokehgihjaaGreatCmpW
import Derived.Test.YtpkgjokehgihjaaGreatFrame
import Derived.Test.YtpkgjokehgihjaaGreatGen
import Derived.Test.YtpkgjokehgihjaaGreatMarkMath
import Derived.Test.YtpkgjokehgihjaaGreatNewTabW
import Derived.Test.YtpkgjokehgihjaaGreatOwnL
import Derived.Test.YtpkgjokehgihjaaGreatProg
import Derived.Test.YtpkgjokehgihjaaGreatCdX
import Derived.Test.YtpkgjokehgihjaaGreatRollMath
import Derived.Test.YtpkgjokehgihjaaGreatRows
import Derived.Test.YtpkgjokehgihjaaGreatShelf
import Derived.Test.YtpkgjokehgihjaaGreatSigAt
import Derived.Test.YtpkgjokehgihjaaGreatSignMath
import Derived.Test.YtpkgjokehgihjaaGreatSortX
import Derived.Test.YtpkgjokehgihjaaGreatSortEW
import Derived.Test.YtpkgjokehgihjaaGreatSortFW
import Derived.BigQuiet
import Derived.BigRegion
import Derived.Deep.CutBlock
import Derived.Deep.DeepCutAuto
import Derived.Deep.QuietTactic
import Derived.Deep.RegionHeld3
import Derived.Deep.RegionLaw
import Derived.IntWalk
import Derived.Laws.BitsAllLaws
import Derived.Laws.Rows
import Derived.Laws.Tables
import Derived.Lib.Hide
import Derived.Outline
import Derived.StillTailTactics
import Derived.WalkKit
import Derived.WalkLawsBesides
import Derived.WalkSpells
import Derived.Test.YtpkgjokehgihjaaGreatInfos
import Derived.Test.YtpkgjokehgihjaaGreatRowKeep
import Derived.Test.YtpkgjokehgihjaaGreatSameW
import Derived.Test.YtpkgjokehgihjaaGreatSAwakeW
import Derived.Test.YtpkgjokehgihjaaGreatSignAW
import Derived.Laws.MakeOwn
import Derived.Test.YtpkgjokehgihjaaGreatSignW
import Derived.ChangeAlike
import Derived.Deep.Draws
import Derived.Laws.Bits128
import Derived.Laws.IdiomStrings
import Derived.Lib.AppendStr
import Derived.Maps.OwnSet
import Derived.Maps.Views
import Derived.RegionTactic
import Derived.Test.YtpkgjokehgihjaaGreatWkX
/- The library's Search, and how a table's blocks of one weak sum are found: walked. -/
set_option linter.unusedVariables false
namespace Go.Proofs.YtpkgjokehgihjaaGreat
open Go.RowKit

def SearchPost (pr : Nat → Bool) (n : Nat) (w : World) (e : Ending) (w' : World) : Prop :=
  ∃ j : Nat, j ≤ n ∧ e = .returned (.int .i64 j) ∧ (∀ k, k < j → pr k = false) ∧ (∀ k, j ≤ k → k < n → pr k = true) ∧ ∃ q, w' = w.drewN q

set_option maxRecDepth 100000 in
set_option maxHeartbeats 1000000 in
theorem search_any (f : Nat) (cb : Array Value) (pr : Nat → Bool) (n : Nat) (w : World) (eg : ∀ (args : Array Value) (w : World), (callFunc f args).run Tryz.prog w = .ok (.enter f args) w)
    (hf : ∀ m i : Nat, i < n → Calls Tryz.prog f (#[.int .i64 i] ++ cb) (w.drewN m) fun e w' => e = .returned (.bool (pr i)) ∧ ∃ q, w' = (w.drewN m).drewN q) (hmono : ∀ a b, a ≤ b → b < n → pr a = true → pr b = true) (hn : n ≤ 1000000) :
    Calls Tryz.prog 99 #[.int .i64 n, .func (.func f) #[] cb] w (SearchPost pr n w) := by
  have HF := Lib.hid hf; clear hf
  have HM := Lib.hid hmono; clear hmono
  go_enter Tryz.func99, Tryz.ntmps99
  go_wp2_with fail
  go_loopw [5, 6, 7] (fun u v x wr => ∃ i j q : Nat, i ≤ j ∧ j ≤ n ∧ u = .int .i64 i ∧ v = .int .i64 j ∧ wr = w.drewN q ∧ Hid ((∀ k, k < i → pr k = false) ∧ (∀ k, j ≤ k → k < n → pr k = true))) (fun u v _ _ => (intOf v).toNat - (intOf u).toNat)
  case atStart => exact ⟨0, n, 0, by omega, by omega, rfl, rfl, rfl, Lib.hid ⟨fun k h1 => by omega, fun k h1 h2 => by omega⟩⟩
  case round =>
    obtain ⟨i, j, q, hij, hj, rfl, rfl, rfl, HS⟩ := hrel
    by_cases hlt : i < j
    · obtain ⟨h, hh⟩ : ∃ h, h = (i + j) / 2 := ⟨_, rfl⟩
      have E : ((i : Int) + (j : Int)) / 2 = (h : Int) := by omega
      have hih : i ≤ h := by omega
      have hhj : h < j := by omega
      clear hh
      have CC := Lib.hid (HF.out q h (by omega))
      cases hp : pr h with
      | false =>
        rw [hp] at CC
        have HS2 := Lib.hid (show ∀ k, k < h + 1 → pr k = false from fun k hk => by
          cases c : pr k with
          | false => rfl
          | true => have := HM.out k h (by omega) (by omega) c; rw [hp] at this; cases this)
        clear hp
        go_wp2_with (go_at_fn f; refine CC.out.mono ?_; rintro e w' ⟨rfl, nq, rfl⟩)
        go_roundw
        case rel => exact ⟨h + 1, j, q + nq, by omega, hj, by go_num, rfl, rfl, Lib.hid ⟨HS2.out, HS.out.2⟩⟩
        case measure => simp [intOf]; omega
      | true =>
        rw [hp] at CC
        have HS2 := Lib.hid (show ∀ k, h ≤ k → k < n → pr k = true from fun k h1 h2 => HM.out h k h1 h2 hp)
        clear hp
        go_wp2_with (go_at_fn f; refine CC.out.mono ?_; rintro e w' ⟨rfl, nq, rfl⟩)
        go_roundw
        case rel => exact ⟨i, h, q + nq, by omega, by omega, rfl, rfl, rfl, Lib.hid ⟨HS.out.1, HS2.out⟩⟩
        case measure => simp [intOf]; omega
    · obtain rfl : i = j := by omega
      go_wp2_with fail
      go_ret
      exact ⟨i, hj, rfl, HS.out.1, HS.out.2, q, rfl⟩
theorem cut_exists (pr : Nat → Bool) (n : Nat) (hmono : ∀ a b, a ≤ b → b < n → pr a = true → pr b = true) : ∃ j, j ≤ n ∧ (∀ k, k < j → pr k = false) ∧ (∀ k, j ≤ k → k < n → pr k = true) := by
  induction n with
  | zero => exact ⟨0, by omega, fun k h => by omega, fun k h1 h2 => by omega⟩
  | succ n ih =>
    obtain ⟨j, hj, h1, h2⟩ := ih (fun a b hab hb => hmono a b hab (by omega))
    by_cases e : j = n
    · cases hp : pr n with
      | false => exact ⟨n + 1, by omega, fun k hk => by by_cases c : k = n; (rw [c]; exact hp); exact h1 k (by omega), fun k h3 h4 => by omega⟩
      | true => exact ⟨n, by omega, fun k hk => h1 k (by omega), fun k h3 h4 => by rw [show k = n by omega]; exact hp⟩
    · exact ⟨j, by omega, h1, fun k h3 h4 => by
        by_cases c : k = n
        · exact hmono j k h3 h4 (h2 j (Nat.le_refl _) (by omega))
        · exact h2 k h3 (by omega)⟩
theorem search_at (f : Nat) (cb : Array Value) (pr : Nat → Bool) (n j : Nat) (w : World) (eg : ∀ (args : Array Value) (w : World), (callFunc f args).run Tryz.prog w = .ok (.enter f args) w)
    (hf : ∀ m i : Nat, i < n → Calls Tryz.prog f (#[.int .i64 i] ++ cb) (w.drewN m) fun e w' => e = .returned (.bool (pr i)) ∧ ∃ q, w' = (w.drewN m).drewN q) (hn : n ≤ 1000000) (hj : j ≤ n) (h1 : ∀ k, k < j → pr k = false) (h2 : ∀ k, j ≤ k → k < n → pr k = true) :
    Calls Tryz.prog 99 #[.int .i64 n, .func (.func f) #[] cb] w fun e w' => e = .returned (.int .i64 j) ∧ ∃ q, w' = w.drewN q := by
  refine (search_any f cb pr n w eg hf (fun a b hab hb ha => ?_) hn).mono ?_
  · have : j ≤ a := by
      by_cases c : a < j
      · rw [h1 a c] at ha; cases ha
      · omega
    exact h2 b (by omega) hb
  · rintro e w' ⟨i, hi, rfl, g1, g2, hq⟩
    have : i = j := by
      rcases Nat.lt_trichotomy i j with c | c | c
      · have := g2 i (Nat.le_refl _) (by omega); rw [h1 i c] at this; cases this
      · exact c
      · have := h2 j (Nat.le_refl _) (by omega); rw [g1 j c] at this; cases this
    subst this
    exact ⟨rfl, hq⟩
/-! ### Plain mathematics: what a table's run of a weak sum is -/
def wOf (ws : List Int) (i : Nat) : Int := ws.getD i 0
def mOf (ms : List Txt) (i : Nat) : Txt := ms.getD i []
def runS (ws : List Int) (ord : List Nat) (weak : Int) : List Nat := ord.filter (fun i => decide (wOf ws i = weak))
theorem OrdIs.mono {ws : List Int} {ms : List Txt} {N : Nat} {ord : List Nat} (h : OrdIs ws ms N ord) {a b : Nat} (hab : a ≤ b) (hb : b < ord.length) : wOf ws (ord[a]'(by omega)) ≤ wOf ws ord[b] := by
  by_cases e : a = b
  · subst e; exact Int.le_refl _
  · have := List.pairwise_iff_getElem.1 h.sorted a b (by omega) hb (by omega)
    rcases this with c | ⟨c, _⟩
    · rw [cvT_lt] at c
      show ws.getD _ 0 ≤ ws.getD _ 0
      rcases c with c | ⟨c, _⟩ <;> omega
    · rw [cvT_not] at c
      show ws.getD _ 0 ≤ ws.getD _ 0
      have : ¬ ws.getD ord[b] 0 < ws.getD (ord[a]'(by omega)) 0 := fun k => c (.inl k)
      omega
theorem OrdIs.lt {ws : List Int} {ms : List Txt} {N : Nat} {ord : List Nat} (h : OrdIs ws ms N ord) {a : Nat} (ha : a < ord.length) : ord[a] < N := List.mem_range.1 (h.perm.mem_iff.1 (List.getElem_mem ha))
theorem filter_none {α : Type} (p : α → Bool) (l : List α) (h : ∀ i (hi : i < l.length), p l[i] = false) : l.filter p = [] := by
  rw [List.filter_eq_nil_iff]
  intro x hx
  obtain ⟨i, hi, rfl⟩ := List.getElem_of_mem hx
  rw [h i hi]; simp
theorem filter_all {α : Type} (p : α → Bool) (l : List α) (h : ∀ i (hi : i < l.length), p l[i] = true) : l.filter p = l := by
  rw [List.filter_eq_self]
  intro x hx
  obtain ⟨i, hi, rfl⟩ := List.getElem_of_mem hx
  exact h i hi
theorem runS_eq {ws : List Int} {ord : List Nat} {weak : Int} {a b : Nat} (hb : a + b ≤ ord.length) (h1 : ∀ k (h : k < ord.length), k < a → wOf ws ord[k] < weak) (h2 : ∀ k (h : k < ord.length), a ≤ k → k < a + b → wOf ws ord[k] = weak) (h3 : ∀ k (h : k < ord.length), a + b ≤ k → weak < wOf ws ord[k]) :
    (ord.drop a).take b = runS ws ord weak := by
  have e : ord = ord.take a ++ ((ord.drop a).take b ++ (ord.drop a).drop b) := by rw [List.take_append_drop, List.take_append_drop]
  unfold runS
  conv => rhs; rw [e]
  rw [List.filter_append, List.filter_append, filter_none _ (ord.take a), filter_all _ ((ord.drop a).take b), filter_none _ ((ord.drop a).drop b)]
  · simp
  · intro i hi
    simp only [List.length_drop] at hi
    rw [List.getElem_drop, List.getElem_drop]
    have := h3 (a + (b + i)) (by omega) (by omega)
    simp; omega
  · intro i hi
    simp only [List.length_take, List.length_drop] at hi
    rw [List.getElem_take, List.getElem_drop]
    have := h2 (a + i) (by omega) (by omega) (by omega)
    simp [this]
  · intro i hi
    simp only [List.length_take] at hi
    rw [List.getElem_take]
    have := h1 i (by omega) (by omega)
    simp; omega
end Go.Proofs.YtpkgjokehgihjaaGreat
/- The walk of a table's run: the blocks of one weak sum, as they stand in the order. -/
set_option linter.unusedVariables false
namespace Go.Proofs.YtpkgjokehgihjaaGreat
open Go.RowKit

/-- What the closures read. -/
structure RunAt (w : World) (q x p : Nat) (B M : Nat) (ws : List Int) (vw vs vo : Value) (ord : List Nat) (weak : Int) : Prop where
  var : VarAt w q p B M vw vs vo
  box : w.heap[x]? = some (.cells #[.int .i64 weak] 3 (0, 0))
  rw : Row (Value.int .i64) (fun _ => True) w vw ws
  ro : RowC encN 0 w vo ord
theorem RowC.at {α : Type} {enc : α → Value} {base : Nat} {w : World} {v : Value} {xs : List α} (h : RowC enc base w v xs) {k : Nat} (hk : k < xs.length) : ∃ g o c, v = .slice (some ⟨g, o, none⟩) xs.length c ∧ w.cell? ⟨g, o + k, none⟩ = some (enc xs[k]) := by
  rcases h with ⟨_, rfl⟩ | ⟨g, o, c, rfl, _, _, hc⟩
  · simp at hk
  · exact ⟨g, o, c, rfl, hc k hk⟩
theorem Row.at {α : Type} {enc : α → Value} {N : Nat → Prop} {w : World} {v : Value} {xs : List α} (h : Row enc N w v xs) {k : Nat} (hk : k < xs.length) : ∃ g o c, v = .slice (some ⟨g, o, none⟩) xs.length c ∧ w.cell? ⟨g, o + k, none⟩ = some (enc xs[k]) := by
  obtain ⟨a, c, rfl, hc⟩ := h
  obtain ⟨b, o, rfl, _, hcell⟩ := hc k hk
  exact ⟨b, o, c, rfl, hcell⟩
theorem RowC.keep {α : Type} {enc : α → Value} {base : Nat} {w w' : World} {v : Value} {xs : List α} (h : RowC enc base w v xs) (hb : Below w.heap.size w w') : RowC enc base w' v xs := by
  rcases h with h | ⟨g, o, c, rfl, h1, h2, hc⟩
  · exact .inl h
  · exact .inr ⟨g, o, c, rfl, h1, h2, fun i hi => (hb.cell (p := ⟨g, o + i, none⟩) (World.block_lt_of_cell? w _ (hc i hi))).trans (hc i hi)⟩
theorem RowC.mono {α : Type} {enc : α → Value} {base base' : Nat} {w : World} {v : Value} {xs : List α} (h : RowC enc base w v xs) (hb : base' ≤ base) : RowC enc base' w v xs := by
  rcases h with h | ⟨g, o, c, rfl, h1, h2, hc⟩
  · exact .inl h
  · exact .inr ⟨g, o, c, rfl, by omega, h2, hc⟩
theorem RunAt.keep {w w' : World} {q x p B M : Nat} {ws : List Int} {vw vs vo : Value} {ord : List Nat} {weak : Int} (h : RunAt w q x p B M ws vw vs vo ord weak) (hb : Below w.heap.size w w') : RunAt w' q x p B M ws vw vs vo ord weak :=
  ⟨⟨old_of hb h.var.var, old_of hb h.var.tab⟩, old_of hb h.box, h.rw.keep hb, h.ro.keep hb⟩
theorem RunAt.drewN {w : World} {q x p B M : Nat} {ws : List Int} {vw vs vo : Value} {ord : List Nat} {weak : Int} (h : RunAt w q x p B M ws vw vs vo ord weak) (m : Nat) : RunAt (w.drewN m) q x p B M ws vw vs vo ord weak := h.keep (Below_drewN (Below.refl _ _) m)
theorem wOf_get {ws : List Int} {i : Nat} (h : i < ws.length) : wOf ws i = ws[i] := by unfold wOf; rw [List.getD_eq_getElem?_getD, List.getElem?_eq_getElem h, Option.getD_some]
theorem mOf_get {ms : List Txt} {i : Nat} (h : i < ms.length) : mOf ms i = ms[i] := by unfold mOf; rw [List.getD_eq_getElem?_getD, List.getElem?_eq_getElem h, Option.getD_some]

set_option maxRecDepth 100000 in
set_option maxHeartbeats 1000000 in
theorem run1_any (q x p B M : Nat) (ws : List Int) (vw vs vo : Value) (ord : List Nat) (weak : Int) (k : Nat) (w : World) (h : RunAt w q x p B M ws vw vs vo ord weak) (hk : k < ord.length) (hi : ord[k] < ws.length) (hl : ws.length ≤ 1000000) (hol : ord.length ≤ 1000000) :
    Calls Tryz.prog 100 #[.int .i64 k, .pointer (some ⟨q, 0, none⟩), .pointer (some ⟨x, 0, none⟩)] w fun e w' => e = .returned (.bool (decide (weak ≤ wOf ws ord[k]))) ∧ ∃ m, w' = w.drewN m := by
  rw [wOf_get hi]
  obtain ⟨g1, o1, c1, rfl, x1⟩ := h.ro.at hk
  obtain ⟨g2, o2, c2, rfl, x2⟩ := h.rw.at hi
  obtain ⟨d0, d1, d2, d3, d4⟩ := tab_c h.var.tab
  have dv := var_c h.var.var
  have dx := var_c h.box
  clear d0 d1 d3 h
  generalize ws[ord[k]] = u at *
  unfold encN at x1
  generalize ord[k] = i at *
  have i1 : (0 : Int) ≤ (k : Int) := by omega
  have i2 : (k : Int) < (ord.length : Int) := by omega
  have i3 : (0 : Int) ≤ (i : Int) := by omega
  have i4 : (i : Int) < (ws.length : Int) := by omega
  go_enter Tryz.func100, Tryz.ntmps100
  go_wp2
  go_quiet (fail)
  go_wp2
  go_ret
  exact ⟨rfl, _, rfl⟩
set_option maxRecDepth 100000 in
set_option maxHeartbeats 1000000 in
theorem run2_any (q x f p B M : Nat) (ws : List Int) (vw vs vo : Value) (ord : List Nat) (weak : Int) (a k : Nat) (w : World) (h : RunAt w q x p B M ws vw vs vo ord weak) (hf : w.heap[f]? = some (.cells #[.int .i64 a] 3 (0, 0))) (hk : a + k < ord.length) (hi : ord[a + k] < ws.length) (hl : ws.length ≤ 1000000) (hol : ord.length ≤ 1000000) :
    Calls Tryz.prog 101 #[.int .i64 k, .pointer (some ⟨q, 0, none⟩), .pointer (some ⟨f, 0, none⟩), .pointer (some ⟨x, 0, none⟩)] w fun e w' => e = .returned (.bool (decide (weak < wOf ws ord[a + k]))) ∧ ∃ m, w' = w.drewN m := by
  rw [wOf_get hi]
  obtain ⟨g1, o1, c1, rfl, x1⟩ := h.ro.at hk
  obtain ⟨g2, o2, c2, rfl, x2⟩ := h.rw.at hi
  obtain ⟨d0, d1, d2, d3, d4⟩ := tab_c h.var.tab
  have dv := var_c h.var.var
  have dx := var_c h.box
  have df := var_c hf
  clear d0 d1 d3 h hf
  generalize ws[ord[a + k]] = u at *
  unfold encN at x1
  generalize ord[a + k] = i at *
  obtain ⟨z, hz⟩ : ∃ z, z = a + k := ⟨_, rfl⟩
  rw [← hz] at x1
  have W1 : IntKind.i64.wrap ((a : Int) + (k : Int)) = (z : Int) := by rw [IntWalk.i64_in _ (by omega)]; omega
  have W2 : (a : Int) + (k : Int) = (z : Int) := by omega
  have i1 : (0 : Int) ≤ (z : Int) := by omega
  have i2 : (z : Int) < (ord.length : Int) := by omega
  have i3 : (0 : Int) ≤ (i : Int) := by omega
  have i4 : (i : Int) < (ws.length : Int) := by omega
  clear hz hk
  go_enter Tryz.func101, Tryz.ntmps101
  go_wp2
  go_quiet (fail)
  go_wp2
  go_ret
  exact ⟨rfl, _, rfl⟩
theorem enters_run1 : ∀ (args : Array Value) (w : World), (callFunc 100 args).run Tryz.prog w = .ok (.enter 100 args) w := enters_of Tryz.func100 (by kernel_rfl) rfl
theorem enters_run2 : ∀ (args : Array Value) (w : World), (callFunc 101 args).run Tryz.prog w = .ok (.enter 101 args) w := enters_of Tryz.func101 (by kernel_rfl) rfl
end Go.Proofs.YtpkgjokehgihjaaGreat
/- The walk of a table's run. -/
set_option linter.unusedVariables false
namespace Go.Proofs.YtpkgjokehgihjaaGreat
open Go.RowKit

def RunPost (w : World) (l : List Nat) (e : Ending) (w' : World) : Prop := ∃ v, e = .returned v ∧ RowC encN 0 w' v l ∧ Below w.heap.size w w'
theorem ord_getD {ord : List Nat} {k : Nat} (hk : k < ord.length) : ord.getD k 0 = ord[k] := by rw [List.getD_eq_getElem?_getD, List.getElem?_eq_getElem hk, Option.getD_some]

set_option maxRecDepth 100000 in
set_option maxHeartbeats 4000000 in
theorem run_any (p B M : Nat) (ws : List Int) (ms : List Txt) (vw vs vo : Value) (ord : List Nat) (base N : Nat) (weak : Int) (w : World) (h : TabAt w base p B M ws ms vw vs vo ord) (hO : OrdIs ws ms N ord) (hN : N ≤ ws.length) (hl : ws.length ≤ 1000000) :
    Calls Tryz.prog 89 #[.pointer (some ⟨p, 0, none⟩), .int .i64 weak] w (RunPost w (runS ws ord weak)) := by
  have HO := Lib.hid hO
  have hol : ord.length ≤ 1000000 := by have := hO.len; omega
  have HT := Lib.hid h
  have HW := Lib.hid (show ∀ k (hk : k < ord.length), ord[k] < ws.length from fun k hk => by have := hO.lt hk; omega)
  clear hN
  have K1 := Lib.hid ((below_self_alloc w (.cells #[.pointer (some ⟨p, 0, none⟩)] 82)).trans ((below_self_alloc (w.alloc (.cells #[.pointer (some ⟨p, 0, none⟩)] 82)) (.cells #[.int .i64 weak] 3)).mono (by simp)))
  have R0 := Lib.hid (show RunAt ((w.alloc (.cells #[.pointer (some ⟨p, 0, none⟩)] 82)).alloc (.cells #[.int .i64 weak] 3)) w.heap.size (w.heap.size + 1) p B M ws vw vs vo ord weak from
    ⟨⟨heap_alloc2_old _ _ _, old_of K1.out h.tab⟩, heap_alloc2_new _ _ _, (h.rw.keep K1.out).mono (fun _ _ => trivial), (h.ro.keep K1.out).mono (Nat.zero_le _)⟩)
  clear hO h HT
  obtain ⟨a, ha, hlo, hhi⟩ := cut_exists (fun k => decide (weak ≤ wOf ws (ord.getD k 0))) ord.length (fun a b hab hb ha => by
      rw [ord_getD (by omega), decide_eq_true_eq] at ha
      rw [ord_getD hb, decide_eq_true_eq]
      exact Int.le_trans ha (HO.out.mono hab hb))
  obtain ⟨c, hc, hlo2, hhi2⟩ := cut_exists (fun k => decide (weak < wOf ws (ord.getD (a + k) 0))) (ord.length - a) (fun x y hab hb ha => by
      rw [ord_getD (by omega), decide_eq_true_eq] at ha
      rw [ord_getD (by omega), decide_eq_true_eq]
      exact Int.lt_of_lt_of_le ha (HO.out.mono (by omega) (by omega)))
  have SE1 := Lib.hid (fun W (hW : RunAt W w.heap.size (w.heap.size + 1) p B M ws vw vs vo ord weak) => search_at 100 #[.pointer (some ⟨w.heap.size, 0, none⟩), .pointer (some ⟨w.heap.size + 1, 0, none⟩)] (fun k => decide (weak ≤ wOf ws (ord.getD k 0))) ord.length a W enters_run1
    (fun m i hi => by rw [ord_getD hi]; exact run1_any _ _ p B M ws vw vs vo ord weak i (W.drewN m) (hW.drewN m) hi (HW.out i hi) hl hol) hol ha hlo hhi)
  have SE2 := Lib.hid (fun W f (hW : RunAt W w.heap.size (w.heap.size + 1) p B M ws vw vs vo ord weak) (hf : W.heap[f]? = some (.cells #[.int .i64 (a : Nat)] 3 (0, 0))) => search_at 101 #[.pointer (some ⟨w.heap.size, 0, none⟩), .pointer (some ⟨f, 0, none⟩), .pointer (some ⟨w.heap.size + 1, 0, none⟩)] (fun k => decide (weak < wOf ws (ord.getD (a + k) 0))) (ord.length - a) c W enters_run2
    (fun m i hi => by rw [ord_getD (by omega)]; exact run2_any _ _ f p B M ws vw vs vo ord weak a i (W.drewN m) (hW.drewN m) hf (by omega) (HW.out _ (by omega)) hl hol) (by omega) hc hlo2 hhi2)
  have HR := Lib.hid (show (ord.drop a).take c = runS ws ord weak from runS_eq (by omega)
    (fun k hk hka => by have := hlo k hka; rw [ord_getD hk, decide_eq_false_iff_not] at this; omega)
    (fun k hk hka hkc => by
      have h1 := hhi k hka hk
      have h2 := hlo2 (k - a) (by omega)
      rw [show a + (k - a) = k by omega] at h2
      rw [ord_getD hk, decide_eq_true_eq] at h1
      rw [ord_getD hk, decide_eq_false_iff_not] at h2
      omega)
    (fun k hk hkc => by
      have h2 := hhi2 (k - a) (by omega) (by omega)
      rw [show a + (k - a) = k by omega, ord_getD hk, decide_eq_true_eq] at h2
      exact h2))
  generalize runS ws ord weak = rs at *
  clear hlo hhi hlo2 hhi2 HO HW
  obtain ⟨ao, mo, co, rfl⟩ : ∃ a m c, vo = .slice a m c := by
    rcases R0.out.ro with ⟨rfl, _⟩ | ⟨g, o, c, rfl, _⟩ <;> exact ⟨_, _, _, rfl⟩
  have hmo : mo = ord.length := by
    rcases R0.out.ro with ⟨e, e2⟩ | ⟨g, o, c, e, _⟩
    · injection e with _ e3 _; rw [e2, e3]; rfl
    · injection e
  subst hmo
  have d0 := (tab_c R0.out.var.tab).2.2.2.2
  have dq := var_c R0.out.var.var
  go_enter Tryz.func89, Tryz.ntmps89
  go_wp2_with fail
  generalize (w.alloc (.cells #[.pointer (some ⟨p, 0, none⟩)] 82)).alloc (.cells #[.int .i64 weak] 3) = w1 at *
  refine (SE1.out _ R0.out).mono ?_
  rintro e w2 ⟨rfl, q1, hw2⟩
  have R2 := Lib.hid (show RunAt w2 w.heap.size (w.heap.size + 1) p B M ws vw vs (.slice ao ord.length co) ord weak by rw [hw2]; exact R0.out.drewN q1)
  have K2 := Lib.hid (show Below w.heap.size w w2 by rw [hw2]; exact Below_drewN K1.out q1)
  have R3 := Lib.hid (R2.out.keep (below_self_alloc w2 (.cells #[.int .i64 (a : Nat)] 3)))
  have K3 := Lib.hid (below_alloc K2.out (.cells #[.int .i64 (a : Nat)] 3))
  have F3 := Lib.hid (heap_alloc_new w2 (.cells #[.int .i64 (a : Nat)] 3))
  clear hw2 d0 dq R0 R2 K1 K2 SE1
  obtain ⟨n2, hn2⟩ : ∃ n2, n2 = ord.length - a := ⟨_, rfl⟩
  have E1 : (ord.length : Int) - (a : Int) = (n2 : Int) := by omega
  have W1 : IntKind.i64.wrap ((ord.length : Int) - (a : Int)) = (n2 : Int) := by rw [IntWalk.i64_in _ (by omega), E1]
  obtain ⟨z, hz⟩ : ∃ z, z = a + c := ⟨_, rfl⟩
  have E2 : (a : Int) + (c : Int) = (z : Int) := by omega
  have W2 : IntKind.i64.wrap ((a : Int) + (c : Int)) = (z : Int) := by rw [IntWalk.i64_in _ (by omega), E2]
  have HZ := Lib.hid (show a ≤ z ∧ z ≤ ord.length ∧ z - a = c by omega)
  rw [← hn2] at SE2
  clear hn2 hz
  go_upto_region 2 with fail
  generalize w2.alloc (.cells #[.int .i64 a] 3) = w3 at *
  generalize w2.heap.size = f at *
  have S2 := Lib.hid (fun n => SE2.out (w3.drewN n) f (R3.out.drewN n) F3.out)
  have d0 := (tab_c R3.out.var.tab).2.2.2.2
  have dq := var_c R3.out.var.var
  have df := var_c F3.out
  clear SE2
  go_quiet ((go_at_call 99; refine Calls.quiet_of (S2.out _)))
  go_wp2
  have R4 := Lib.hid (R3.out.drewN nq)
  have K4 := Lib.hid (Below_drewN K3.out nq)
  have F4 : (w3.drewN nq).heap[f]? = _ := F3.out
  generalize w3.drewN nq = w4 at *
  clear d0 dq df R3 K3 F3 S2
  have d0 := (tab_c R4.out.var.tab).2.2.2.2
  have dq := var_c R4.out.var.var
  have df := var_c F4
  clear F4
  rcases R4.out.ro with ⟨e, h0⟩ | ⟨g, o, c', e, _, hcc, hcell⟩
  · injection e with e1 e2 e3
    subst e1; subst e3
    have hz := HZ.out
    rw [h0] at hz
    simp only [List.length_nil] at hz
    have ha0 : a = 0 := by omega
    have hc0 : c = 0 := by omega
    have hz0 : z = 0 := by omega
    have HRN := Lib.hid (show rs = [] by rw [← HR.out, h0]; simp)
    clear hz HR HZ R4 E1 W1 E2 W2 h0 ha hc
    subst ha0; subst hc0; subst hz0
    rw [e2] at d0
    go_quiet (fail)
    go_wp2
    go_ret
    exact ⟨_, rfl, .inl ⟨rfl, HRN.out⟩, Below_drewN K4.out _⟩
  · injection e with e1 e2 e3
    subst e1; subst e3
    have hz := HZ.out
    have i1 : (0 : Int) ≤ (a : Int) := by omega
    have i2 : (a : Int) ≤ (z : Int) := by omega
    have i3 : (z : Int) ≤ (co : Int) := by omega
    have i4 : (a : Int) ≤ (co : Int) := by omega
    have i5 : a ≤ z := by omega
    have i6 : z ≤ co := by omega
    have HL := Lib.hid (show rs.length = c by rw [← HR.out, List.length_take, List.length_drop]; omega)
    have HC := Lib.hid (show ∀ i (h : i < rs.length), w4.cell? ⟨g, o + a + i, none⟩ = some (encN rs[i]) by
      intro i hi
      have hi' : a + i < ord.length := by rw [HL.out] at hi; omega
      have e : rs[i] = ord[a + i] := by
        simp only [← HR.out]
        rw [List.getElem_take, List.getElem_drop]
      rw [e, show o + a + i = o + (a + i) by omega]
      exact hcell (a + i) hi')
    have hcc' := hcc
    clear hz hcell R4 HR E1 W1
    by_cases hca : co = a
    · have hza : z = a := by omega
      subst hca; subst hza
      have HRN := Lib.hid (show rs = [] from List.eq_nil_of_length_eq_zero (by rw [HL.out]; have := HZ.out; omega))
      go_quiet (fail)
      go_wp2
      go_ret
      exact ⟨_, rfl, .inr ⟨g, o, 0, by rw [HRN.out]; simp, Nat.zero_le _, by rw [HRN.out]; simp, fun i hi => by rw [HRN.out] at hi; simp at hi⟩, Below_drewN K4.out _⟩
    · have hcz := HZ.out.2.2
      have HZC := Lib.hid hcz; clear hcz
      go_quiet (fail)
      go_wp2
      all_goals
        go_ret
        exact ⟨_, rfl, .inr ⟨g, o + a, co - a, by rw [HL.out, ← HZC.out]; rfl, Nat.zero_le _, by rw [HL.out]; omega, HC.out⟩, Below_drewN K4.out _⟩
end Go.Proofs.YtpkgjokehgihjaaGreat
/- Walks of a table's isOf and behindMark. -/
set_option linter.unusedVariables false
namespace Go.Proofs.YtpkgjokehgihjaaGreat
open Go.RowKit

/-! ### Plain mathematics -/
/-- Marks rise, and those of one mark. -/
def MS (ms : List Txt) (l : List Nat) : Prop := l.Pairwise (fun a b => mOf ms a < mOf ms b ∨ (mOf ms a = mOf ms b ∧ a < b))
theorem runS_MS {ws : List Int} {ms : List Txt} {N : Nat} {ord : List Nat} (h : OrdIs ws ms N ord) (weak : Int) : MS ms (runS ws ord weak) := by
  unfold MS runS
  rw [List.pairwise_filter]
  refine h.sorted.imp (fun {a b} hab ha hb => ?_)
  have ea : ws.getD a 0 = weak := by simpa [wOf] using ha
  have eb : ws.getD b 0 = weak := by simpa [wOf] using hb
  rcases hab with c | ⟨c, c'⟩
  · rw [cvT_lt] at c
    rcases c with c | ⟨_, c⟩
    · omega
    · exact .inl c
  · rw [cvT_not] at c
    have hn : ¬ mOf ms b < mOf ms a := fun k => c (.inr ⟨by omega, k⟩)
    rcases txt_total (mOf ms a) (mOf ms b) with k | k | k
    · exact .inl k
    · exact .inr ⟨k, c'⟩
    · exact absurd k hn
theorem MS.drop {ms : List Txt} {l : List Nat} (h : MS ms l) (a : Nat) : MS ms (l.drop a) := List.Pairwise.drop h
theorem MS.not_lt {ms : List Txt} {l : List Nat} (h : MS ms l) {a b : Nat} (hab : a ≤ b) (hb : b < l.length) : ¬ mOf ms l[b] < mOf ms (l[a]'(by omega)) := by
  by_cases e : a = b
  · subst e; exact txt_irr _
  · rcases List.pairwise_iff_getElem.1 h a b (by omega) hb (by omega) with c | ⟨c, _⟩
    · exact fun k => txt_irr _ (txt_tr c k)
    · rw [c]; exact txt_irr _
theorem gt_eq (x y : Txt) : (!(Op.bytesLess x y || x == y)) = decide (y < x) := by
  rw [bytesLess_eq]
  rcases txt_total x y with h | h | h
  · have : ¬ y < x := fun k => txt_irr _ (txt_tr h k)
    simp [h, this]
  · subst h; simp
  · have h1 : ¬ x < y := fun k => txt_irr _ (txt_tr h k)
    have h2 : (x == y) = false := by rw [beq_eq_false_iff_ne]; rintro rfl; exact txt_irr _ h
    simp [h, h1, h2]

theorem TabAt.on {w w' : World} {base p B M : Nat} {ws : List Int} {ms : List Txt} {vw vs vo : Value} {ord : List Nat} (h : TabAt w base p B M ws ms vw vs vo ord) (hb : Below w.heap.size w w') : TabAt w' base p B M ws ms vw vs vo ord :=
  ⟨h.hp, old_of hb h.tab, h.rw.keep hb, h.rs.keep hb, h.ro.keep hb⟩
/-! ### isOf -/
def isOfB (ws : List Int) (N : Nat) (i weak : Int) : Bool := decide (0 ≤ i ∧ i < (N : Int) ∧ wOf ws i.toNat = weak)
set_option maxRecDepth 100000 in
set_option maxHeartbeats 1000000 in
theorem isOf_any (p B M : Nat) (ws : List Int) (ms : List Txt) (vw vs vo : Value) (ord : List Nat) (base N : Nat) (i weak : Int) (w : World) (h : TabAt w base p B M ws ms vw vs vo ord) (hO : ord.length = N) (hN : N ≤ ws.length) (hl : ws.length ≤ 1000000) :
    Calls Tryz.prog 88 #[.pointer (some ⟨p, 0, none⟩), .int .i64 i, .int .i64 weak] w fun e w' => e = .returned (.bool (isOfB ws N i weak)) ∧ w = w' := by
  obtain ⟨d0, d1, d2, d3, d4⟩ := tab_c h.tab
  clear d0 d1 d3
  obtain ⟨ao, mo, co, rfl⟩ : ∃ a m c, vo = .slice a m c := by
    rcases h.ro with ⟨rfl, _⟩ | ⟨g, o, c, rfl, _⟩ <;> exact ⟨_, _, _, rfl⟩
  have hmo : mo = N := by
    rw [← hO]
    rcases h.ro with ⟨e, e2⟩ | ⟨g, o, c, e, _⟩
    · injection e with _ e3 _; rw [e2, e3]; rfl
    · injection e
  subst hmo
  obtain ⟨aw, mw, cw, rfl⟩ := h.rw.slice
  by_cases h0 : 0 ≤ i
  · obtain ⟨k, rfl⟩ : ∃ k : Nat, i = (k : Int) := ⟨i.toNat, by omega⟩
    by_cases hk : k < mo
    · have i1 : (k : Int) < (mo : Int) := by omega
      obtain ⟨g, o, c, he, x1⟩ := h.rw.at (show k < ws.length by omega)
      injection he with e1 e2 e3
      subst e1; subst e2; subst e3
      have i2 : (k : Int) < (ws.length : Int) := by omega
      have E := wOf_get (show k < ws.length by omega)
      by_cases hq : ws[k] = weak
      · have R := Lib.hid (show isOfB ws mo k weak = true from decide_eq_true ⟨h0, i1, by rw [Int.toNat_natCast, E]; exact hq⟩)
        rw [hq] at x1
        have q1 : (weak == weak) = true := by simp
        clear h hO hN E hq
        go_enter Tryz.func88, Tryz.ntmps88
        go_wp2
        go_ret
        exact ⟨by rw [R.out]; rfl, rfl⟩
      · have R := Lib.hid (show isOfB ws mo k weak = false from decide_eq_false (fun c => hq (by rw [← E]; have := c.2.2; rwa [Int.toNat_natCast] at this)))
        have q1 : (ws[k] == weak) = false := by simpa using hq
        generalize ws[k] = u at *
        clear h hO hN E hq
        go_enter Tryz.func88, Tryz.ntmps88
        go_wp2
        go_ret
        exact ⟨by rw [R.out]; rfl, rfl⟩
    · have R := Lib.hid (show isOfB ws mo k weak = false from decide_eq_false (fun c => by omega))
      have i1 : ¬ (k : Int) < (mo : Int) := by omega
      clear h hO hN
      go_enter Tryz.func88, Tryz.ntmps88
      go_wp2
      go_ret
      exact ⟨by rw [R.out]; rfl, rfl⟩
  · have R := Lib.hid (show isOfB ws mo i weak = false from decide_eq_false (fun c => h0 c.1))
    clear h hO hN
    go_enter Tryz.func88, Tryz.ntmps88
    go_wp2
    go_ret
    exact ⟨by rw [R.out]; rfl, rfl⟩

/-! ### behindMark -/
structure BehAt (w : World) (q x f p : Nat) (B M : Nat) (ms : List Txt) (vw vs vo vr : Value) (l : List Nat) (m0 : Txt) : Prop where
  var : VarAt w q p B M vw vs vo
  box : w.heap[x]? = some (.cells #[vr] 56 (0, 0))
  fst : w.heap[f]? = some (.cells #[.string ⟨m0.toArray⟩] 9 (0, 0))
  rs : Row encT (fun _ => True) w vs ms
  rr : RowC encN 0 w vr l
theorem BehAt.keep {w w' : World} {q x f p B M : Nat} {ms : List Txt} {vw vs vo vr : Value} {l : List Nat} {m0 : Txt} (h : BehAt w q x f p B M ms vw vs vo vr l m0) (hb : Below w.heap.size w w') : BehAt w' q x f p B M ms vw vs vo vr l m0 :=
  ⟨⟨old_of hb h.var.var, old_of hb h.var.tab⟩, old_of hb h.box, old_of hb h.fst, h.rs.keep hb, h.rr.keep hb⟩
theorem BehAt.drewN {w : World} {q x f p B M : Nat} {ms : List Txt} {vw vs vo vr : Value} {l : List Nat} {m0 : Txt} (h : BehAt w q x f p B M ms vw vs vo vr l m0) (m : Nat) : BehAt (w.drewN m) q x f p B M ms vw vs vo vr l m0 := h.keep (Below_drewN (Below.refl _ _) m)
set_option maxRecDepth 100000 in
set_option maxHeartbeats 1000000 in
theorem beh1_any (q x f p B M : Nat) (ms : List Txt) (vw vs vo vr : Value) (l : List Nat) (m0 : Txt) (k : Nat) (w : World) (h : BehAt w q x f p B M ms vw vs vo vr l m0) (hk : k < l.length) (hi : l[k] < ms.length) (hl : ms.length ≤ 1000000) (hol : l.length ≤ 1000000) :
    Calls Tryz.prog 102 #[.int .i64 k, .pointer (some ⟨q, 0, none⟩), .pointer (some ⟨x, 0, none⟩), .pointer (some ⟨f, 0, none⟩)] w fun e w' => e = .returned (.bool (decide (m0 < mOf ms l[k]))) ∧ ∃ m, w' = w.drewN m := by
  rw [mOf_get hi]
  obtain ⟨g1, o1, c1, rfl, x1⟩ := h.rr.at hk
  obtain ⟨g2, o2, c2, rfl, x2⟩ := h.rs.at hi
  obtain ⟨d0, d1, d2, d3, d4⟩ := tab_c h.var.tab
  have dv := var_c h.var.var
  have dx := var_c h.box
  have df := var_c h.fst
  clear d0 d1 d2 d4 h
  unfold encT at x2
  generalize ms[l[k]] = u at *
  unfold encN at x1
  generalize l[k] = i at *
  have G := Lib.hid (gt_eq u m0)
  have L1 : (⟨u.toArray⟩ : ByteArray).toList = u := by rw [Lib.toList_data]
  have L2 : (⟨m0.toArray⟩ : ByteArray).toList = m0 := by rw [Lib.toList_data]
  have i1 : (0 : Int) ≤ (k : Int) := by omega
  have i2 : (k : Int) < (l.length : Int) := by omega
  have i3 : (0 : Int) ≤ (i : Int) := by omega
  have i4 : (i : Int) < (ms.length : Int) := by omega
  go_enter Tryz.func102, Tryz.ntmps102
  go_wp2
  go_quiet (fail)
  go_wp2
  go_ret
  exact ⟨wp_ret_bool (by rw [← G.out]; simp), _, rfl⟩
theorem enters_beh : ∀ (args : Array Value) (w : World), (callFunc 102 args).run Tryz.prog w = .ok (.enter 102 args) w := enters_of Tryz.func102 (by kernel_rfl) rfl
def BehPost (ms : List Txt) (l : List Nat) (w : World) (e : Ending) (w' : World) : Prop := ∃ v j, e = .returned v ∧ 1 ≤ j ∧ j ≤ l.length ∧ (∀ k (h : k < l.length), k < j → mOf ms l[k] = mOf ms (l[0]'(by omega))) ∧ RowC encN 0 w' v (l.drop j) ∧ Below w.heap.size w w'

set_option maxRecDepth 100000 in
set_option maxHeartbeats 4000000 in
theorem behind_any (p B M : Nat) (ws : List Int) (ms : List Txt) (vw vs vo vr : Value) (ord l : List Nat) (base : Nat) (w : World) (h : TabAt w base p B M ws ms vw vs vo ord) (hr : RowC encN 0 w vr l) (h0 : 0 < l.length) (hM : MS ms l) (hi : ∀ k (h : k < l.length), l[k] < ms.length) (hl : ms.length ≤ 1000000) (hol : l.length ≤ 1000000) :
    Calls Tryz.prog 90 #[.pointer (some ⟨p, 0, none⟩), vr] w (BehPost ms l w) := by
  obtain ⟨j, hj, hlo, hhi⟩ := cut_exists (fun k => decide (mOf ms l[0] < mOf ms (l.getD k 0))) l.length (fun a b hab hb ha => by
      rw [ord_getD (by omega), decide_eq_true_eq] at ha
      rw [ord_getD hb, decide_eq_true_eq]
      rcases txt_total (mOf ms (l[a]'(by omega))) (mOf ms l[b]) with c | c | c
      · exact txt_tr ha c
      · rw [← c]; exact ha
      · exact absurd c (hM.not_lt hab hb))
  have hj1 : 1 ≤ j := by
    by_cases c : j = 0
    · have := hhi 0 (by omega) h0
      rw [ord_getD h0, decide_eq_true_eq] at this
      exact absurd this (txt_irr _)
    · omega
  have HEQ := Lib.hid (show ∀ k (h : k < l.length), k < j → mOf ms l[k] = mOf ms l[0] from fun k hk hkj => by
    have h1 := hlo k hkj
    rw [ord_getD hk, decide_eq_false_iff_not] at h1
    rcases txt_total (mOf ms l[0]) (mOf ms l[k]) with c | c | c
    · exact absurd c h1
    · exact c.symm
    · exact absurd c (hM.not_lt (Nat.zero_le _) hk))
  have K1 := Lib.hid ((below_self_alloc w (.cells #[.pointer (some ⟨p, 0, none⟩)] 82)).trans ((below_self_alloc (w.alloc (.cells #[.pointer (some ⟨p, 0, none⟩)] 82)) (.cells #[vr] 56)).mono (by simp)))
  have G1 := Lib.hid (heap_alloc2_old w (.cells #[.pointer (some ⟨p, 0, none⟩)] 82) (.cells #[vr] 56))
  have G2 := Lib.hid (heap_alloc2_new w (.cells #[.pointer (some ⟨p, 0, none⟩)] 82) (.cells #[vr] 56))
  have G3 := Lib.hid (old_of K1.out h.tab)
  have R1 := Lib.hid ((h.rs.keep K1.out).mono (M := fun _ => True) (fun _ _ => trivial))
  have R2 := Lib.hid (hr.keep K1.out)
  have SZ := Lib.hid (show ((w.alloc (.cells #[.pointer (some ⟨p, 0, none⟩)] 82)).alloc (.cells #[vr] 56)).heap.size = w.heap.size + 2 by simp)
  obtain ⟨m0, hm0⟩ : ∃ m0, m0 = mOf ms l[0] := ⟨_, rfl⟩
  have hm1 := hi 0 h0
  have E0 := mOf_get hm1
  rw [← hm0] at E0 hlo hhi
  obtain ⟨g1, o1, co, rfl, x1⟩ := R2.out.at h0
  obtain ⟨g2, o2, c2, rfl, x2⟩ := R1.out.at hm1
  rw [← E0] at x2
  unfold encT at x2
  unfold encN at x1
  rw [Nat.add_zero] at x1
  have BF := Lib.hid (fun W f (hW : BehAt W w.heap.size (w.heap.size + 1) f p B M ms vw (.slice (some ⟨g2, o2, none⟩) ms.length c2) vo (.slice (some ⟨g1, o1, none⟩) l.length co) l m0) => search_at 102 #[.pointer (some ⟨w.heap.size, 0, none⟩), .pointer (some ⟨w.heap.size + 1, 0, none⟩), .pointer (some ⟨f, 0, none⟩)] (fun k => decide (m0 < mOf ms (l.getD k 0))) l.length j W enters_beh
    (fun m i hi' => by rw [ord_getD hi']; exact beh1_any _ _ _ p B M ms vw _ vo _ l m0 i (W.drewN m) (hW.drewN m) hi' (hi i hi') hl hol) hol hj hlo hhi)
  have HCELL := Lib.hid hr
  clear hlo hhi hm0 E0 hM hi h hr
  have dq := var_c G1.out
  have dx := var_c G2.out
  have d3 := (tab_c G3.out).2.2.2.1
  obtain ⟨i0, hi0⟩ : ∃ i0, i0 = l[0] := ⟨_, rfl⟩
  rw [← hi0] at x1 x2 hm1
  clear hi0
  have i1 : (0 : Int) < (l.length : Int) := by omega
  have i2 : (0 : Int) ≤ (i0 : Int) := by omega
  have i3 : (i0 : Int) < (ms.length : Int) := by omega
  go_enter Tryz.func90, Tryz.ntmps90
  go_wp2_with fail
  generalize (w.alloc (.cells #[.pointer (some ⟨p, 0, none⟩)] 82)).alloc (.cells #[.slice (some ⟨g1, o1, none⟩) l.length co] 56) = w1 at *
  have dq' := cell_alloc1 dq (.cells #[.string ⟨#[]⟩] 9)
  have dx' := cell_alloc1 dx (.cells #[.string ⟨#[]⟩] 9)
  have d3' := cell_alloc1 d3 (.cells #[.string ⟨#[]⟩] 9)
  have x1' := cell_alloc1 x1 (.cells #[.string ⟨#[]⟩] 9)
  have x2' := cell_alloc1 x2 (.cells #[.string ⟨#[]⟩] 9)
  go_region
  all_goals
    go_wp2_with fail
    have hbb := Below_drew (below_self_alloc w1 (.cells #[.string ⟨m0.toArray⟩] 9))
    have K2 := Lib.hid (K1.out.trans (hbb.mono K1.out.size))
    have BA := Lib.hid (show BehAt (w1.alloc (.cells #[.string ⟨m0.toArray⟩] 9)).drew w.heap.size (w.heap.size + 1) w1.heap.size p B M ms vw (.slice (some ⟨g2, o2, none⟩) ms.length c2) vo (.slice (some ⟨g1, o1, none⟩) l.length co) l m0 from
      ⟨⟨old_of hbb G1.out, old_of hbb G3.out⟩, old_of hbb G2.out, heap_alloc_new w1 _, R1.out.keep hbb, R2.out.keep hbb⟩)
    clear hbb dq dx d3 x1 x2 dq' dx' d3' x1' x2' K1 G1 G2 G3 R1 R2 SZ HCELL
    generalize (w1.alloc (.cells #[.string ⟨m0.toArray⟩] 9)).drew = w2 at *
    generalize w1.heap.size = f at *
    have dq := var_c BA.out.var.var
    have dx := var_c BA.out.box
    have CC := Lib.hid (fun n => BF.out (w2.drewN n) f (BA.out.drewN n))
    clear BF
    have hco : l.length ≤ co := by
      rcases BA.out.rr with ⟨e, _⟩ | ⟨g, o, c', e, _, hcc, _⟩
      · cases e
      · injection e with e1 e2 e3; omega
    have HCL := Lib.hid (show ∀ i (h : i < (l.drop j).length), w2.cell? ⟨g1, o1 + j + i, none⟩ = some (encN (l.drop j)[i]) by
      intro i hi
      rw [List.length_drop] at hi
      obtain ⟨g, o, c', e, hcell⟩ := BA.out.rr.at (show j + i < l.length by omega)
      injection e with e1 e2 e3
      injection e1 with e1
      injection e1 with e4 e5
      subst e4; subst e5
      rw [List.getElem_drop, show o1 + j + i = o1 + (j + i) by omega]
      exact hcell)
    have j1 : (0 : Int) ≤ (j : Int) := by omega
    have j2 : (j : Int) ≤ (l.length : Int) := by omega
    have j3 : (j : Int) ≤ (co : Int) := by omega
    have j4 : (l.length : Int) ≤ (co : Int) := by omega
    have j5 : j ≤ co := by omega
    by_cases hcj : co = j
    · have hlj : l.length = j := by omega
      have HJ := Lib.hid hlj
      subst hcj
      clear hlj
      go_quiet ((go_at_call 99; refine Calls.quiet_of (CC.out _)))
      go_wp2
      go_ret
      exact ⟨_, co, rfl, hj1, hj, HEQ.out, .inr ⟨g1, o1, 0, by rw [List.length_drop, HJ.out, Nat.sub_self]; rfl, Nat.zero_le _, by rw [List.length_drop, HJ.out]; omega, fun i hi => by rw [List.length_drop, HJ.out] at hi; omega⟩, Below_drewN K2.out _⟩
    · go_quiet ((go_at_call 99; refine Calls.quiet_of (CC.out _)))
      go_wp2
      all_goals
        go_ret
        exact ⟨_, j, rfl, hj1, hj, HEQ.out, .inr ⟨g1, o1 + j, co - j, by rw [List.length_drop]; rfl, Nat.zero_le _, by rw [List.length_drop]; omega, HCL.out⟩, Below_drewN K2.out _⟩
end Go.Proofs.YtpkgjokehgihjaaGreat
/- The walk of a table's Match, by an ideal book. -/
set_option linter.unusedVariables false
namespace Go.Proofs.YtpkgjokehgihjaaGreat
open Go.RowKit

/-- A book that is asked. -/
structure AskI (n pb : Nat) (At : World → Prop) (is : Txt → Txt → Bool) : Prop where
  new : ∀ {a b : World}, At a → Below a.heap.size a b → At b
  is : ∀ (w : World) (s m : Txt), At w → s.length ≤ n → Calls Tryz.prog 17 #[.pointer (some ⟨pb, 0, none⟩), .string ⟨s.toArray⟩, .string ⟨m.toArray⟩] w fun e w' => e = .returned (.bool (is s m)) ∧ Below w.heap.size w w'
/-- The first of a run whose mark the book takes. -/
def fstS (is : Txt → Bool) (ms : List Txt) (l : List Nat) : Int := match l.find? (fun i => is (mOf ms i)) with
  | some i => (i : Int)
  | none => -1
theorem fstS_nil (is : Txt → Bool) (ms : List Txt) : fstS is ms [] = -1 := rfl
theorem fstS_yes {is : Txt → Bool} {ms : List Txt} {l : List Nat} (h0 : 0 < l.length) (h : is (mOf ms l[0]) = true) : fstS is ms l = (l[0] : Nat) := by
  cases l with
  | nil => simp at h0
  | cons x l =>
    have h' : is (mOf ms x) = true := h
    unfold fstS
    simp [h']
theorem fstS_drop {is : Txt → Bool} {ms : List Txt} (l : List Nat) (j : Nat) (h : ∀ k (h : k < l.length), k < j → is (mOf ms l[k]) = false) : fstS is ms l = fstS is ms (l.drop j) := by
  induction j generalizing l with
  | zero => rfl
  | succ j ih =>
    cases l with
    | nil => rfl
    | cons x l =>
      have hx : is (mOf ms x) = false := h 0 (by simp) (by omega)
      rw [List.drop_succ_cons, ← ih l (fun k hk hkj => h (k + 1) (by simp; omega) (by omega))]
      unfold fstS
      rw [List.find?_cons_of_neg (by rw [hx]; simp)]
def matchZ (is : Txt → Bool) (ws : List Int) (ms : List Txt) (N B : Nat) (ord : List Nat) (weak wanted : Int) (s : Txt) : Int :=
  if s.length ≠ B then -1 else if isOfB ws N wanted weak = true ∧ is (mOf ms wanted.toNat) = true then wanted else fstS is ms (runS ws ord weak)
theorem isOfB_nat {ws : List Int} {N : Nat} {i weak : Int} (h : isOfB ws N i weak = true) : ∃ k : Nat, i = (k : Int) ∧ k < N := by
  have := of_decide_eq_true h
  exact ⟨i.toNat, by omega, by omega⟩

set_option maxRecDepth 100000 in
set_option maxHeartbeats 8000000 in
theorem tabMatch_ask (p B M pb n : Nat) (At : World → Prop) (is : Txt → Txt → Bool) (A : AskI n pb At is) (t : Txt) (ws : List Int) (ms : List Txt) (vw vs vo : Value) (ord : List Nat) (base N : Nat) (weak wanted : Int) (w : World) (h : TabAt w base p B M ws ms vw vs vo ord) (hO : OrdIs ws ms N ord) (hN : N ≤ ws.length) (hNM : N ≤ ms.length) (hl : ws.length ≤ 1000000) (hlm : ms.length ≤ 1000000)
    (hI : At w) (ht : t.length ≤ n) (hn : n ≤ 140737488351232) :
    Calls Tryz.prog 59 #[.pointer (some ⟨p, 0, none⟩), .pointer (some ⟨pb, 0, none⟩), .int .i64 weak, .string ⟨t.toArray⟩, .int .i64 wanted] w fun e w' => e = .returned (.int .i64 (matchZ (is t) ws ms N B ord weak wanted t)) ∧ Below w.heap.size w w' := by
  have HA := Lib.hid A
  clear A
  have HT := Lib.hid h
  have HO := Lib.hid hO
  have HI := Lib.hid hI
  have TL := Lib.hid (show (⟨t.toArray⟩ : ByteArray).size = t.length from rfl)
  obtain ⟨d0, d1, d2, d3, d4⟩ := tab_c h.tab
  clear d1 d2 d4
  have HM := Lib.hid (show matchZ (is t) ws ms N B ord weak wanted t = if t.length ≠ B then -1 else if isOfB ws N wanted weak = true ∧ is t (mOf ms wanted.toNat) = true then wanted else fstS (is t) ms (runS ws ord weak) from rfl)
  generalize matchZ (is t) ws ms N B ord weak wanted t = res at *
  by_cases hlen : t.length = B
  · have q0 : ((t.length : Int) != (B : Int)) = false := by simp [hlen]
    have HM2 := Lib.hid (show res = if isOfB ws N wanted weak = true ∧ is t (mOf ms wanted.toNat) = true then wanted else fstS (is t) ms (runS ws ord weak) by rw [HM.out, if_neg (fun c => c hlen)])
    clear HM
    have hlenT : t.length ≤ 140737488351232 := Nat.le_trans ht hn
    have IO := Lib.hid (isOf_any p B M ws ms vw vs vo ord base N wanted weak w h hO.len hN hl)
    have RN := Lib.hid (fun W (hW : TabAt W base p B M ws ms vw vs vo ord) => run_any p B M ws ms vw vs vo ord base N weak W hW hO hN hl)
    have HMS := Lib.hid (runS_MS hO weak)
    have HRL := Lib.hid (show (runS ws ord weak).length ≤ 1000000 by
      have := List.length_filter_le (fun i => decide (wOf ws i = weak)) ord
      have h2 := hO.len
      unfold runS
      omega)
    have HRI := Lib.hid (show ∀ k (hk : k < (runS ws ord weak).length), (runS ws ord weak)[k] < ms.length by
      intro k hk
      have h1 : (runS ws ord weak)[k] ∈ ord := (List.mem_filter.1 (List.getElem_mem hk)).1
      have h2 := List.mem_range.1 (hO.perm.mem_iff.1 h1)
      omega)
    generalize hrs : runS ws ord weak = rs at *
    clear hrs
    clear h hO hI hlen
    have HCASE := Lib.hid (show (∃ k : Nat, wanted = (k : Int) ∧ k < N ∧ isOfB ws N wanted weak = true ∧ is t (mOf ms k) = true ∧ res = wanted) ∨ ((∃ k : Nat, wanted = (k : Int) ∧ k < N ∧ isOfB ws N wanted weak = true ∧ is t (mOf ms k) = false) ∧ res = fstS (is t) ms rs) ∨ (isOfB ws N wanted weak = false ∧ res = fstS (is t) ms rs) by
      have e := HM2.out
      cases hio : isOfB ws N wanted weak with
      | true =>
        obtain ⟨k, rfl, hk⟩ := isOfB_nat hio
        rw [hio, Int.toNat_natCast] at e
        cases hik : is t (mOf ms k) with
        | true => exact .inl ⟨k, rfl, hk, rfl, hik, by rw [e, hik]; simp⟩
        | false => exact .inr (.inl ⟨⟨k, rfl, hk, rfl, hik⟩, by rw [e, hik]; simp⟩)
      | false => exact .inr (.inr ⟨rfl, by rw [e, hio]; simp⟩))
    clear HM2
    rcases HCASE.out with ⟨k, rfl, hk, hio, hik, hres⟩ | h23
    · rw [hio] at IO
      have hkm : k < ms.length := by omega
      obtain ⟨g2, o2, c2, rfl, x2⟩ := HT.out.rs.at hkm
      rw [← mOf_get hkm] at x2
      unfold encT at x2
      have i1 : (0 : Int) ≤ (k : Int) := by omega
      have i2 : (k : Int) < (ms.length : Int) := by omega
      have ISK := Lib.hid (HA.out.is w t (mOf ms k) HI.out ht)
      rw [hik] at ISK
      have HR := Lib.hid hres
      clear hik hio HCASE hres
      generalize mOf ms k = mk at *
      go_enter Tryz.func59, Tryz.ntmps59
      go_wp2_with fail
      refine IO.out.mono ?_
      rintro e w' ⟨rfl, rfl⟩
      go_wp2_with fail
      refine ISK.out.mono ?_
      rintro e w1 ⟨rfl, hb1⟩
      go_wp2_with fail
      go_ret
      exact ⟨by rw [HR.out]; rfl, hb1⟩
    · have HR := Lib.hid (show res = fstS (is t) ms rs from h23.elim (fun h => h.2) (fun h => h.2))
      have HC := Lib.hid (show (∃ k : Nat, wanted = (k : Int) ∧ k < N ∧ isOfB ws N wanted weak = true ∧ is t (mOf ms k) = false) ∨ isOfB ws N wanted weak = false from h23.elim (fun h => .inl h.1) (fun h => .inr h.1))
      clear h23 HCASE
      go_enter Tryz.func59, Tryz.ntmps59
      rcases HC.out with ⟨k, rfl, hk, hio, hik⟩ | hio
      case' inl =>
        rw [hio] at IO
        have hkm : k < ms.length := by omega
        obtain ⟨g2, o2, c2, hvs, x2⟩ := HT.out.rs.at hkm
        rw [hvs] at d3
        clear hvs
        rw [← mOf_get hkm] at x2
        unfold encT at x2
        have i1 : (0 : Int) ≤ (k : Int) := by omega
        have i2 : (k : Int) < (ms.length : Int) := by omega
        have ISK := Lib.hid (HA.out.is w t (mOf ms k) HI.out ht)
        rw [hik] at ISK
        clear hik hio HC
        generalize mOf ms k = mk at *
        go_wp2_with fail
        refine IO.out.mono ?_
        rintro e w' ⟨rfl, rfl⟩
        go_wp2_with fail
        refine ISK.out.mono ?_
        rintro e w1 ⟨rfl, hb1⟩
        have B1 := Lib.hid hb1
        clear hb1 ISK IO
      case' inr =>
        rw [hio] at IO
        clear hio HC
        go_wp2_with fail
        refine IO.out.mono ?_
        rintro e w1 ⟨rfl, hw1⟩
        have B1 := Lib.hid (show Below w.heap.size w w1 by rw [← hw1]; exact Below.refl _ _)
        clear hw1 IO
      all_goals
        have HT1 := Lib.hid (HT.out.on B1.out)
        have RN1 := Lib.hid (RN.out w1 HT1.out)
        clear d0 d3 RN
        go_wp2_with fail
        refine RN1.out.mono ?_
        rintro e w2 ⟨v, rfl, hr2, hb2⟩
        have B2 := Lib.hid (B1.out.trans (hb2.mono B1.out.size))
        have R2 := Lib.hid hr2
        clear hr2 hb2 RN1 HT1 B1
        go_wp2_with fail
        go_loopw [11] (fun u wr => ∃ a : Nat, a ≤ rs.length ∧ RowC encN 0 wr u (rs.drop a) ∧ Below w.heap.size w wr ∧ Hid (res = fstS (is t) ms (rs.drop a))) (fun u _ => lenV u)
        case atStart => exact ⟨0, by omega, R2.out, B2.out, HR⟩
        case round =>
          clear R2 B2 HR
          obtain ⟨a, ha, hrow, hbel, HR⟩ := hrel
          have HB := Lib.hid hbel; clear hbel
          have HT2 := Lib.hid (HT.out.on HB.out)
          have HI2 := Lib.hid (HA.out.new HI.out HB.out)
          have HROW := Lib.hid hrow
          have HLR := HRL.out
          have hdl : (rs.drop a).length ≤ 1000000 := by rw [List.length_drop]; omega
          have HDI := Lib.hid (show ∀ k (hk : k < (rs.drop a).length), (rs.drop a)[k] < ms.length by
            intro k hk
            rw [List.length_drop] at hk
            rw [List.getElem_drop]
            exact HRI.out _ (by omega))
          have HDM := Lib.hid (HMS.out.drop a)
          have HDD := Lib.hid (show ∀ j, (rs.drop a).drop j = rs.drop (a + j) from fun j => List.drop_drop)
          have HLD := Lib.hid (List.length_drop (i := a) (l := rs))
          generalize rs.drop a = l at *
          by_cases h0 : 0 < l.length
          · have HX := Lib.hid (HDI.out 0 h0)
            obtain ⟨g1, o1, c1, rfl, x1⟩ := hrow.at h0
            obtain ⟨g2, o2, c2, hvs, x2⟩ := HT2.out.rs.at HX.out
            rw [← mOf_get HX.out] at x2
            unfold encT at x2
            unfold encN at x1
            rw [Nat.add_zero] at x1
            obtain ⟨d0, d1, d2, d3, d4⟩ := tab_c HT2.out.tab
            rw [hvs] at d3
            clear d0 d1 d2 d4 hvs
            have i1 : (0 : Int) < (l.length : Int) := by omega
            have i2 : (0 : Int) ≤ ((l[0] : Nat) : Int) := by omega
            have i3 : ((l[0] : Nat) : Int) < (ms.length : Int) := by have := HX.out; omega
            have ISX := Lib.hid (HA.out.is wr.drew t (mOf ms l[0]) (HA.out.new HI2.out (Below_drew (Below.refl _ _))) ht)
            have HBD := Lib.hid (Below_drew HB.out)
            have HTD := Lib.hid (HT2.out.on (Below_drew (Below.refl _ wr)))
            have HRD := Lib.hid (HROW.out.keep (Below_drew (Below.refl _ wr)))
            cases his : is t (mOf ms l[0]) with
            | true =>
              have HRR := Lib.hid (show res = ((l[0] : Nat) : Int) by rw [HR.out]; exact fstS_yes h0 his)
              rw [his] at ISX
              clear his HDI HDM HLD HROW HX
              generalize mOf ms l[0] = mk at *
              generalize l[0] = x at *
              go_wp2_with fail
              go_region_law (first
                | (go_simp; go_at_call 17; (refine ISX.out.mono ?_); rintro e w3 ⟨rfl, hb3⟩; have y1 := (hb3.cell (p := ⟨g1, o1, none⟩) (World.block_lt_of_cell? wr.drew _ x1)).trans x1; have B3 := Lib.hid (HBD.out.trans (hb3.mono HBD.out.size)); clear hb3))
              all_goals
                go_wp2_with fail
                go_ret
                exact ⟨by rw [HRR.out]; rfl, B3.out⟩
            | false =>
              rw [his] at ISX
              have HIS := Lib.hid his
              clear his
              go_wp2_with fail
              go_region_law (first
                | (go_simp; go_at_call 17; (refine ISX.out.mono ?_); rintro e w3 ⟨rfl, hb3⟩; have B3 := Lib.hid (HBD.out.trans (hb3.mono HBD.out.size)); have HT3 := Lib.hid (HTD.out.on hb3); have R3 := Lib.hid (HRD.out.keep hb3); clear hb3))
              all_goals
                have BH := Lib.hid (behind_any p B M ws ms vw vs vo (.slice (some ⟨g1, o1, none⟩) l.length c1) ord l base w3 HT3.out R3.out h0 HDM.out HDI.out hlm hdl)
                go_wp2_with fail
                refine BH.out.mono ?_
                rintro e w4 ⟨v', j, rfl, hj1, hj2, hje, hr4, hb4⟩
                have HR2 := Lib.hid (show res = fstS (is t) ms (l.drop j) by
                  rw [HR.out]
                  exact fstS_drop l j (fun k hk hkj => by rw [hje k hk hkj]; exact HIS.out))
                have B4 := Lib.hid (B3.out.trans (hb4.mono B3.out.size))
                have R4 := Lib.hid hr4
                have HLV := Lib.hid (show lenV v' < l.length by
                  rcases hr4 with ⟨rfl, _⟩ | ⟨g, o, c, rfl, _⟩
                  · exact h0
                  · show (l.drop j).length < _
                    rw [List.length_drop]; omega)
                obtain ⟨av, mv, cv', rfl⟩ : ∃ a m c, v' = .slice a m c := by
                  rcases hr4 with ⟨rfl, _⟩ | ⟨g, o, c, rfl, _⟩ <;> exact ⟨_, _, _, rfl⟩
                clear hr4 hb4 hje BH B3 HT3 R3 ISX HIS
                go_wp2_with fail
                go_roundw
                case rel => exact ⟨a + j, by have := HLD.out; omega, by rw [← HDD.out]; exact R4.out, B4.out, by rw [← HDD.out]; exact HR2⟩
                case measure => exact HLV.out
          · have hl0 : l = [] := List.eq_nil_of_length_eq_zero (by omega)
            have HRR := Lib.hid (show res = -1 by rw [HR.out, hl0]; rfl)
            have hv : ∃ a c, u11 = .slice a 0 c := by
              rw [hl0] at hrow
              rcases hrow with ⟨rfl, _⟩ | ⟨g, o, c, rfl, _⟩
              · exact ⟨_, _, rfl⟩
              · exact ⟨_, _, rfl⟩
            obtain ⟨av, cv', rfl⟩ := hv
            clear hl0 h0 HLD HROW hrow
            go_wp2_with fail
            go_ret
            exact ⟨by rw [HRR.out]; rfl, HB.out⟩
  · have q0 : ((t.length : Int) != (B : Int)) = true := by simp; omega
    have HR := Lib.hid (show res = -1 by rw [HM.out, if_pos hlen])
    clear HM hlen
    go_enter Tryz.func59, Tryz.ntmps59
    go_wp2_with fail
    go_ret
    exact ⟨by rw [HR.out]; rfl, Below.refl _ _⟩
theorem ask_ideal (pb bm : Nat) (S : List Txt) (hS : S.length ≤ 1000000) : AskI 140737488351232 pb (fun w => IdealAt w pb bm S) (isS S) :=
  ⟨fun h hb => h.new hb, fun w s m h hl => is_ideal w pb bm S s m h hl hS⟩
theorem tabMatch_any (p B M pb bm : Nat) (S : List Txt) (t : Txt) (ws : List Int) (ms : List Txt) (vw vs vo : Value) (ord : List Nat) (base N : Nat) (weak wanted : Int) (w : World) (h : TabAt w base p B M ws ms vw vs vo ord) (hO : OrdIs ws ms N ord) (hN : N ≤ ws.length) (hNM : N ≤ ms.length) (hl : ws.length ≤ 1000000) (hlm : ms.length ≤ 1000000)
    (hI : IdealAt w pb bm S) (ht : t.length ≤ 140737488351232) (hS : S.length ≤ 1000000) :
    Calls Tryz.prog 59 #[.pointer (some ⟨p, 0, none⟩), .pointer (some ⟨pb, 0, none⟩), .int .i64 weak, .string ⟨t.toArray⟩, .int .i64 wanted] w fun e w' => e = .returned (.int .i64 (matchZ (isS S t) ws ms N B ord weak wanted t)) ∧ Below w.heap.size w w' :=
  tabMatch_ask p B M pb _ _ _ (ask_ideal pb bm S hS) t ws ms vw vs vo ord base N weak wanted w h hO hN hNM hl hlm hI ht (Nat.le_refl _)
end Go.Proofs.YtpkgjokehgihjaaGreat
/- Plain mathematics of Match and Tail over a signed text, by an ideal book. -/
set_option linter.unusedVariables false
namespace Go.Proofs.YtpkgjokehgihjaaGreat
open Go.RowKit

def tailZ (is : Txt → Bool) (ws : List Int) (ms : List Txt) (N B M : Nat) (t : Txt) : Bool :=
  decide (N ≠ ws.length) && (decide (t.length + N * B = M) && (decide (((wk t : Nat) : Int) = wOf ws N) && is (mOf ms N)))
/-- From block k on, m of them: the first that is so. -/
def lowF (P : Nat → Bool) : Nat → Nat → Int
  | _, 0 => -1
  | k, m + 1 => if P k then (k : Int) else lowF P (k + 1) m
def anyF (P : Nat → Bool) (wanted : Int) : Nat → Nat → Bool
  | _, 0 => false
  | k, m + 1 => anyF P wanted (k + 1) m || (P k && ((k : Int) == wanted))
theorem lowF_some {P : Nat → Bool} {i : Nat} (hP : P i = true) : ∀ (m k : Nat), k ≤ i → i < k + m → (∀ j, k ≤ j → j < i → P j = false) → lowF P k m = (i : Int) := by
  intro m
  induction m with
  | zero => intro k h1 h2; omega
  | succ m ih =>
    intro k h1 h2 h3
    unfold lowF
    by_cases e : k = i
    · subst e; rw [if_pos hP]
    · rw [if_neg (by rw [h3 k (Nat.le_refl _) (by omega)]; simp)]
      exact ih (k + 1) (by omega) (by omega) (fun j h4 h5 => h3 j (by omega) h5)
theorem lowF_none {P : Nat → Bool} : ∀ (m k : Nat), (∀ j, k ≤ j → j < k + m → P j = false) → lowF P k m = -1 := by
  intro m
  induction m with
  | zero => intro k _; rfl
  | succ m ih =>
    intro k h
    unfold lowF
    rw [if_neg (by rw [h k (Nat.le_refl _) (by omega)]; simp)]
    exact ih (k + 1) (fun j h1 h2 => h j (by omega) (by omega))
theorem anyF_iff {P : Nat → Bool} {wanted : Int} : ∀ (m k : Nat), anyF P wanted k m = true ↔ ∃ i, k ≤ i ∧ i < k + m ∧ P i = true ∧ (i : Int) = wanted := by
  intro m
  induction m with
  | zero => intro k; constructor
            · intro h; cases h
            · rintro ⟨i, h1, h2, _⟩; omega
  | succ m ih =>
    intro k
    unfold anyF
    rw [Bool.or_eq_true, ih, Bool.and_eq_true, beq_iff_eq]
    constructor
    · rintro (⟨i, h1, h2, h3⟩ | ⟨h1, h2⟩)
      · exact ⟨i, by omega, by omega, h3⟩
      · exact ⟨k, Nat.le_refl _, by omega, h1, h2⟩
    · rintro ⟨i, h1, h2, h3, h4⟩
      by_cases e : i = k
      · subst e; exact .inr ⟨h3, h4⟩
      · exact .inl ⟨i, by omega, by omega, h3, h4⟩

/-! ### A text's blocks -/
structure Signed (B : Nat) (s : Txt) (L : List Txt) (S : List Txt) (ws : List Int) (ms : List Txt) (N : Nat) : Prop where
  b1 : 16 ≤ B
  b2 : B ≤ 1024
  sl : s.length ≤ 3000
  hL : L = cutS B s
  hS : S = seenS L
  hws : ws = (L.map wk).map (fun n : Nat => (n : Int))
  hms : ms = L.map fun t => numM (noS S t)
  hN : N = s.length / B
section
variable {B : Nat} {s : Txt} {L S : List Txt} {ws : List Int} {ms : List Txt} {N : Nat}
theorem Signed.len (h : Signed B s L S ws ms N) : L.length = if s.length % B = 0 then N else N + 1 := by
  have h1 := h.b1
  rw [h.hL, cutS_length B (by omega), h.hN]
  have e := Nat.div_add_mod s.length B
  have hm := Nat.mod_lt s.length (show 0 < B by omega)
  generalize hq : s.length / B = q at *
  generalize s.length % B = r at *
  have e2 : s.length + B - 1 = (r + B - 1) + B * q := by rw [← e]; omega
  rw [e2, Nat.add_mul_div_left _ _ (show 0 < B by omega)]
  by_cases h0 : r = 0
  · rw [if_pos h0, h0, Nat.div_eq_of_lt (show 0 + B - 1 < B by omega)]; omega
  · rw [if_neg h0, show r + B - 1 = (r - 1) + B by omega, Nat.add_div_right _ (by omega), Nat.div_eq_of_lt (show r - 1 < B by omega)]; omega
theorem Signed.le (h : Signed B s L S ws ms N) : L.length ≤ 3000 := by
  rw [h.hL]; exact Nat.le_trans (cutS_le B (by have := h.b1; omega) s) h.sl
theorem Signed.small (h : Signed B s L S ws ms N) : L.length ≤ 1000 ∧ N ≤ L.length ∧ L.length ≤ N + 1 := by
  have h1 := h.len
  have h2 := h.b1
  have h3 : N ≤ 188 := by rw [h.hN]; exact Nat.le_trans (Nat.div_le_div_left h2 (by decide)) (Nat.le_trans (Nat.div_le_div_right h.sl) (by decide))
  split at h1 <;> omega
theorem Signed.lw (h : Signed B s L S ws ms N) : ws.length = L.length := by rw [h.hws]; simp
theorem Signed.lm (h : Signed B s L S ws ms N) : ms.length = L.length := by rw [h.hms]; simp
theorem Signed.get (h : Signed B s L S ws ms N) {i : Nat} (hi : i < L.length) : L[i] = (s.drop (i * B)).take B ∧ i * B < s.length := by
  have e := h.hL
  subst e
  exact cutS_get B (by have := h.b1; omega) s i hi
theorem Signed.whole (h : Signed B s L S ws ms N) {i : Nat} (hi : i < L.length) : L[i].length = B ↔ i < N := by
  have hb := h.b1
  obtain ⟨e, hlt⟩ := h.get hi
  have hn := h.hN
  have e1 := Nat.div_add_mod s.length B
  have hm := Nat.mod_lt s.length (show 0 < B by omega)
  rw [← hn] at e1
  have hcm : B * N = N * B := Nat.mul_comm _ _
  rw [e, List.length_take, List.length_drop]
  constructor
  · intro h1
    by_cases c : i < N
    · exact c
    · have : N * B ≤ i * B := Nat.mul_le_mul_right B (by omega)
      omega
  · intro h1
    have : (i + 1) * B ≤ N * B := Nat.mul_le_mul_right B h1
    rw [Nat.succ_mul] at this
    omega
theorem Signed.le_b (h : Signed B s L S ws ms N) {i : Nat} (hi : i < L.length) : L[i].length ≤ B := by
  rw [(h.get hi).1]; exact List.length_take_le _ _
theorem Signed.w (h : Signed B s L S ws ms N) {i : Nat} (hi : i < L.length) : wOf ws i = ((wk L[i] : Nat) : Int) := by
  rw [wOf_get (by rw [h.lw]; exact hi)]
  simp [h.hws]
theorem Signed.m (h : Signed B s L S ws ms N) {i : Nat} (hi : i < L.length) : mOf ms i = numM (noS S L[i]) := by
  rw [mOf_get (by rw [h.lm]; exact hi)]
  simp [h.hms]
theorem Signed.is (h : Signed B s L S ws ms N) (t : Txt) {i : Nat} (hi : i < L.length) : isS S t (mOf ms i) = decide (t = L[i]) := by
  rw [h.m hi, h.hS]
  by_cases ht : t ∈ L
  · obtain ⟨k, hk, rfl⟩ := List.getElem_of_mem ht
    exact isS_mark L k i hk hi h.small.1
  · have h1 : t ∉ seenS L := fun c => ht ((mem_seenS _ _).1 c)
    have h2 : t ≠ L[i] := fun c => ht (by rw [c]; exact List.getElem_mem hi)
    unfold isS
    rw [decide_eq_false h1, decide_eq_false h2]; rfl
/-- What the law asks of block i. -/
def condB (L : List Txt) (B : Nat) (t : Txt) (weak : Int) (i : Nat) : Bool := decide ((L.getD i []).length = B ∧ L.getD i [] = t ∧ ((wk t : Nat) : Int) = weak)
theorem Signed.cond (h : Signed B s L S ws ms N) (t : Txt) (weak : Int) {i : Nat} (hi : i < L.length) : condB L B t weak i = true ↔ i < N ∧ wOf ws i = weak ∧ isS S t (mOf ms i) = true := by
  unfold condB
  rw [decide_eq_true_eq, List.getD_eq_getElem?_getD, List.getElem?_eq_getElem hi, Option.getD_some, h.is t hi, decide_eq_true_eq, h.w hi, h.whole hi]
  constructor
  · rintro ⟨h1, h2, h3⟩
    exact ⟨h1, by rw [h2]; exact h3, h2.symm⟩
  · rintro ⟨h1, h2, h3⟩
    exact ⟨h1, h3.symm, by rw [h3]; exact h2⟩
theorem Signed.mark_inj (h : Signed B s L S ws ms N) (t : Txt) {i j : Nat} (hi : isS S t (mOf ms i) = true) (hj : isS S t (mOf ms j) = true) : mOf ms i = mOf ms j := by
  unfold isS at hi hj
  rw [Bool.and_eq_true, decide_eq_true_eq, decide_eq_true_eq] at hi hj
  rw [← hi.2, ← hj.2]
/-- What Match tells is what the law asks. -/
theorem Signed.match_eq (h : Signed B s L S ws ms N) {ord : List Nat} (hO : OrdIs ws ms N ord) (t : Txt) (weak wanted : Int) :
    matchZ (isS S t) ws ms N B ord weak wanted t = if anyF (condB L B t weak) wanted 0 L.length = true then wanted else lowF (condB L B t weak) 0 L.length := by
  have hNL := h.small.2.1
  unfold matchZ
  by_cases hl : t.length = B
  · rw [if_neg (fun c => c hl)]
    have hA : (isOfB ws N wanted weak = true ∧ isS S t (mOf ms wanted.toNat) = true) ↔ anyF (condB L B t weak) wanted 0 L.length = true := by
      rw [anyF_iff]
      constructor
      · rintro ⟨h1, h2⟩
        have h3 := of_decide_eq_true h1
        refine ⟨wanted.toNat, by omega, by omega, ?_, by omega⟩
        rw [h.cond t weak (by omega)]
        exact ⟨by omega, h3.2.2, h2⟩
      · rintro ⟨i, _, h2, h3, rfl⟩
        rw [h.cond t weak (by omega)] at h3
        rw [Int.toNat_natCast]
        exact ⟨decide_eq_true ⟨by omega, by omega, by rw [Int.toNat_natCast]; exact h3.2.1⟩, h3.2.2⟩
    by_cases hc : anyF (condB L B t weak) wanted 0 L.length = true
    · rw [if_pos (hA.2 hc), if_pos hc]
    · rw [if_neg (fun c => hc (hA.1 c)), if_neg hc]
      unfold fstS
      have hmem : ∀ j, j ∈ runS ws ord weak ↔ j < N ∧ wOf ws j = weak := by
        intro j
        unfold runS
        rw [List.mem_filter, hO.perm.mem_iff, List.mem_range, decide_eq_true_eq]
      cases hf : (runS ws ord weak).find? (fun i => isS S t (mOf ms i)) with
      | none =>
        rw [List.find?_eq_none] at hf
        symm
        refine lowF_none _ _ (fun j _ hj => ?_)
        cases hcj : condB L B t weak j with
        | false => rfl
        | true =>
          rw [h.cond t weak (by omega)] at hcj
          exact absurd hcj.2.2 (hf j ((hmem j).2 ⟨hcj.1, hcj.2.1⟩))
      | some i =>
        rw [List.find?_eq_some_iff_append] at hf
        obtain ⟨hpi, l1, l2, hl', has⟩ := hf
        have hi := (hmem i).1 (by rw [hl']; simp)
        symm
        refine lowF_some ((h.cond t weak (by omega)).2 ⟨hi.1, hi.2, hpi⟩) _ _ (Nat.zero_le _) (by omega) (fun j _ hj => ?_)
        cases hcj : condB L B t weak j with
        | false => rfl
        | true =>
          rw [h.cond t weak (by omega)] at hcj
          have hjm : j ∈ runS ws ord weak := (hmem j).2 ⟨hcj.1, hcj.2.1⟩
          have hms := runS_MS hO weak
          unfold MS at hms
          rw [hl'] at hjm hms
          rcases List.mem_append.1 hjm with c | c
          · have := has j c
            simp [hcj.2.2] at this
          · rcases List.mem_cons.1 c with c | c
            · omega
            · have h2 := (List.pairwise_append.1 hms).2.1
              have h3 := (List.pairwise_cons.1 h2).1 j c
              rcases h3 with h3 | ⟨_, h3⟩
              · rw [h.mark_inj t hpi hcj.2.2] at h3
                exact absurd h3 (txt_irr _)
              · omega
  · rw [if_pos hl]
    have hno : ∀ j, j < L.length → condB L B t weak j = false := fun j hj => by
      unfold condB
      refine decide_eq_false (fun c => hl ?_)
      rw [← c.2.1]; exact c.1
    have h1 : ¬ anyF (condB L B t weak) wanted 0 L.length = true := by
      rw [anyF_iff]
      rintro ⟨i, _, h2, h3, _⟩
      rw [hno i (by omega)] at h3
      cases h3
    rw [if_neg h1, lowF_none _ _ (fun j _ hj => hno j (by omega))]
/-- What Tail tells is what the law asks. -/
theorem Signed.tail_eq (h : Signed B s L S ws ms N) (t : Txt) : tailZ (isS S t) ws ms N B s.length t = (decide (0 < s.length % B) && decide (t = s.drop (s.length - s.length % B))) := by
  have hlen := h.len
  have hb := h.b1
  have e1 := Nat.div_add_mod s.length B
  have hm := Nat.mod_lt s.length (show 0 < B by omega)
  rw [← h.hN] at e1
  have hcm : B * N = N * B := Nat.mul_comm _ _
  unfold tailZ
  by_cases h0 : s.length % B = 0
  · rw [if_pos h0] at hlen
    rw [h.lw, hlen, h0]; simp
  · rw [if_neg h0] at hlen
    have hi : N < L.length := by omega
    have hg := (h.get hi).1
    have hgd : L[N] = s.drop (s.length - s.length % B) := by
      rw [hg, show s.length - s.length % B = N * B by omega, List.take_of_length_le]
      rw [List.length_drop]; omega
    rw [h.is t hi, ← hgd, h.lw, h.w hi]
    by_cases ht : t = L[N]
    · have h1 : t.length + N * B = s.length := by
        rw [ht, hgd, List.length_drop]; omega
      have a1 : decide (N ≠ L.length) = true := decide_eq_true (by omega)
      have a2 : decide (0 < s.length % B) = true := decide_eq_true (by omega)
      rw [a1, a2, decide_eq_true h1, decide_eq_true ht, ht]
      simp
    · rw [decide_eq_false ht]; simp
end
end Go.Proofs.YtpkgjokehgihjaaGreat
/- A region that draws its order, whose operations only read, whose callees may make memory: walked once, in the order of the text. -/
set_option linter.unusedVariables false
namespace Go.Proofs.YtpkgjokehgihjaaGreat
open Go.RowKit

/-- A world behind w0 in which all that stood stands. -/
structure BelowOf (w0 : World) where
  w : World
  h : Below w0.heap.size w0 w
instance belowOf_inh (w0 : World) : Inhabited (BelowOf w0) := ⟨⟨w0, Below.refl _ _⟩⟩
theorem wp_region_below {P : Program} {id : Nat} {Q : Exit → Act → World → Prop} {a : Act} {w0 : World} {l : List Oper} (hm : P.follows .mixedOrders = true) (hB : Region.lexB .any l.toArray = true)
    (h : wpQuiet P l.toArray (fun w' => ∃ p : BelowOf w0, w' = p.w) (fun a' => ∀ w', (∃ p : BelowOf w0, w' = p.w) → Q .normal a' w') l a) : (Code.region id l.toArray true).wp P Q a w0 :=
  wp_region_quiet (C := fun w' => ∃ p : BelowOf w0, w' = p.w) hm hB ⟨⟨w0.drew, Below_drew (Below.refl _ _)⟩, rfl⟩ (by simpa using h)
theorem below_calls {P : Program} {f : FuncId} {args : Array Value} {w0 : World} {p : BelowOf w0} {v : Value} (h : Calls P f args p.w fun e w' => e = .returned v ∧ Below p.w.heap.size p.w w') :
    Calls P f args p.w fun e w'' => e = .returned v ∧ ∃ p' : BelowOf w0, w'' = p'.w :=
  h.mono fun _ w' ⟨he, hb⟩ => ⟨he, ⟨w', p.h.trans (hb.mono p.h.size)⟩, rfl⟩
theorem below_calls_same {P : Program} {f : FuncId} {args : Array Value} {w0 : World} {p : BelowOf w0} {v : Value} (h : Calls P f args p.w fun e w' => e = .returned v ∧ p.w = w') :
    Calls P f args p.w fun e w'' => e = .returned v ∧ ∃ p' : BelowOf w0, w'' = p'.w :=
  h.mono fun _ w' ⟨he, hb⟩ => ⟨he, p, hb.symm⟩
theorem below_cell {w0 : World} {a : Addr} {v : Value} (h : w0.cell? a = some v) (p : BelowOf w0) : p.w.cell? a = some v := (p.h.cell (World.block_lt_of_cell? w0 _ h)).trans h
end Go.Proofs.YtpkgjokehgihjaaGreat
/- The walk of a table's Tail, by an ideal book. -/
set_option linter.unusedVariables false
namespace Go.Proofs.YtpkgjokehgihjaaGreat
open Go.RowKit

set_option maxRecDepth 100000 in
set_option maxHeartbeats 8000000 in
theorem tabTail_ask (p B M pb n : Nat) (At : World → Prop) (is : Txt → Txt → Bool) (A : AskI n pb At is) (t : Txt) (ws : List Int) (ms : List Txt) (vw vs vo : Value) (ord : List Nat) (base N : Nat) (w : World) (h : TabAt w base p B M ws ms vw vs vo ord) (hO : OrdIs ws ms N ord) (hN : N ≤ ws.length) (hwm : ws.length = ms.length) (hl : ws.length ≤ 1000000)
    (hM : N * B ≤ M) (hM2 : M ≤ 1000000) (hB : B ≤ 1024) (hI : At w) (ht : t.length ≤ 100000) (hn : 100000 ≤ n) :
    Calls Tryz.prog 66 #[.pointer (some ⟨p, 0, none⟩), .pointer (some ⟨pb, 0, none⟩), .string ⟨t.toArray⟩] w fun e w' => e = .returned (.bool (tailZ (is t) ws ms N B M t)) ∧ Below w.heap.size w w' := by
  have HA := Lib.hid A
  clear A
  have HT := Lib.hid h
  have HI := Lib.hid hI
  have TL := Lib.hid (show (⟨t.toArray⟩ : ByteArray).size = t.length from rfl)
  obtain ⟨d0, d1, d2, d3, d4⟩ := tab_c h.tab
  have HZ := Lib.hid (show tailZ (is t) ws ms N B M t = (decide (N ≠ ws.length) && (decide (t.length + N * B = M) && (decide (((wk t : Nat) : Int) = wOf ws N) && is t (mOf ms N)))) from rfl)
  generalize tailZ (is t) ws ms N B M t = res at *
  obtain ⟨ao, mo, co, rfl⟩ : ∃ a m c, vo = .slice a m c := by
    rcases h.ro with ⟨rfl, _⟩ | ⟨g, o, c, rfl, _⟩ <;> exact ⟨_, _, _, rfl⟩
  have hmo : mo = N := by
    rw [← hO.len]
    rcases h.ro with ⟨e, e2⟩ | ⟨g, o, c, e, _⟩
    · injection e with _ e3 _; rw [e2, e3]; rfl
    · injection e
  subst hmo
  obtain ⟨aw, cw, hvw, _⟩ := h.rw
  rw [hvw] at d2
  by_cases hNe : mo = ws.length
  · have q0 : ((mo : Int) == (ws.length : Int)) = true := by simp [hNe]
    have HR := Lib.hid (show res = false by rw [HZ.out]; simp [hNe])
    clear HZ h hO hI hN hwm hM hNe hvw
    go_enter Tryz.func66, Tryz.ntmps66
    go_wp2_with fail
    go_quiet (fail)
    go_wp2_with fail
    go_ret
    exact ⟨by rw [HR.out]; rfl, Below_drewN (Below.refl _ _) _⟩
  · have q0 : ((mo : Int) == (ws.length : Int)) = false := by simp; omega
    have hlt : mo < ws.length := by omega
    obtain ⟨g1, o1, c1, hvw2, x1⟩ := h.rw.at hlt
    obtain ⟨g2, o2, c2, hvs, x2⟩ := h.rs.at (show mo < ms.length by omega)
    rw [hvw] at hvw2
    injection hvw2 with e1 e2 e3
    subst e1; subst e3
    rw [hvs] at d3
    rw [← wOf_get hlt] at x1
    rw [← mOf_get (show mo < ms.length by omega)] at x2
    unfold encT at x2
    have SM := Lib.hid (fun W => sum_any t W (by omega))
    have ISX := Lib.hid (fun W (hW : At W) => HA.out.is W t (mOf ms mo) hW (by omega))
    have HR0 := Lib.hid (show res = (decide (t.length + mo * B = M) && (decide (((wk t : Nat) : Int) = wOf ws mo) && is t (mOf ms mo))) by rw [HZ.out]; simp [hNe])
    obtain ⟨z, hz⟩ : ∃ z, z = mo * B := ⟨_, rfl⟩
    rw [← hz] at HR0 hM
    have E1 : (mo : Int) * (B : Int) = (z : Int) := by rw [hz]; push_cast; rfl
    have hmoB : mo ≤ 1000000 := by omega
    have W1 : IntKind.i64.wrap ((mo : Int) * (B : Int)) = (z : Int) := by rw [E1, IntWalk.i64_in _ (by omega)]
    obtain ⟨r, hr⟩ : ∃ r, r = M - z := ⟨_, rfl⟩
    have E2 : (M : Int) - (z : Int) = (r : Int) := by omega
    have W2 : IntKind.i64.wrap ((M : Int) - (z : Int)) = (r : Int) := by rw [IntWalk.i64_in _ (by omega), E2]
    have HRZ := Lib.hid (show t.length + z = M ↔ t.length = r by omega)
    clear hz hr E1 E2
    have i1 : (0 : Int) ≤ (mo : Int) := by omega
    have i2 : (mo : Int) < (ws.length : Int) := by omega
    have i3 : (mo : Int) < (ms.length : Int) := by omega
    generalize is t (mOf ms mo) = bi at *
    generalize mOf ms mo = mk at *
    generalize wOf ws mo = wv at *
    obtain ⟨x, hx⟩ : ∃ x, x = wk t := ⟨_, rfl⟩
    rw [← hx] at SM HR0
    clear hx HZ h hO hI hN hNe hvw hvs hlt hwm hM
    have HCASE := Lib.hid (show ((((t.length : Int) == (r : Int)) = true ∧ ((x : Int) == wv) = true) ∧ res = bi) ∨ (((t.length : Int) == (r : Int)) = true ∧ ((x : Int) == wv) = false ∧ res = false) ∨ (((t.length : Int) == (r : Int)) = false ∧ res = false) by
      rw [HR0.out]
      by_cases hc1 : t.length = r
      · rw [decide_eq_true (HRZ.out.2 hc1)]
        by_cases hc2 : (x : Int) = wv
        · rw [decide_eq_true hc2]
          exact .inl ⟨⟨by simp [hc1], by simp [hc2]⟩, by simp⟩
        · rw [decide_eq_false hc2]
          exact .inr (.inl ⟨by simp [hc1], by simpa using hc2, by simp⟩)
      · rw [decide_eq_false (fun c => hc1 (HRZ.out.1 c))]
        exact .inr (.inr ⟨by simp; omega, by simp⟩))
    clear HR0 HRZ
    go_enter Tryz.func66, Tryz.ntmps66
    go_wp2_with fail
    go_quiet (fail)
    go_wp2_with fail
    have D0 : (w.drewN nq).cell? ⟨p, 0, none⟩ = _ := d0
    have D1 : (w.drewN nq).cell? ⟨p, 1, none⟩ = _ := d1
    have D2 : (w.drewN nq).cell? ⟨p, 2, none⟩ = _ := d2
    have D3 : (w.drewN nq).cell? ⟨p, 3, none⟩ = _ := d3
    have Y1 : (w.drewN nq).cell? ⟨g1, o1 + mo, none⟩ = _ := x1
    have Y2 : (w.drewN nq).cell? ⟨g2, o2 + mo, none⟩ = _ := x2
    have HB1 := Lib.hid (Below_drewN (Below.refl w.heap.size w) nq)
    have HI1 := Lib.hid (HA.out.new HI.out HB1.out)
    generalize w.drewN nq = w1 at *
    clear d0 d1 d2 d3 d4 x1 x2 HI
    have E0 := below_cell D0
    have E1 := below_cell D1
    have E2 := below_cell D2
    have E3 := below_cell D3
    have F1 := below_cell Y1
    have F2 := below_cell Y2
    have IP := Lib.hid (fun P : BelowOf w1 => HA.out.new HI1.out P.h)
    clear D0 D1 D2 D3 Y1 Y2
    rcases HCASE.out with ⟨⟨q1, q2⟩, hres⟩ | ⟨q1, q2, hres⟩ | ⟨q1, hres⟩
    · have HR := Lib.hid hres
      clear hres HCASE
      refine wp_region_below (by kernel_rfl) (by kernel_rfl) ?_
      repeat (go_big_quiet_step ((first | (go_at_call 39; exact below_calls (SM.out _)) | (go_at_call 17; exact below_calls (ISX.out _ (IP.out _))))))
      refine wpQuiet_nil ?_
      rintro _ ⟨⟨w2, hb2⟩, rfl⟩
      go_wp2_with fail
      go_ret
      exact ⟨by rw [HR.out]; rfl, HB1.out.trans (hb2.mono HB1.out.size)⟩
    · have HR := Lib.hid hres
      clear hres HCASE
      refine wp_region_below (by kernel_rfl) (by kernel_rfl) ?_
      repeat (go_big_quiet_step ((first | (go_at_call 39; exact below_calls (SM.out _)) | (go_at_call 17; exact below_calls (ISX.out _ (IP.out _))))))
      refine wpQuiet_nil ?_
      rintro _ ⟨⟨w2, hb2⟩, rfl⟩
      go_wp2_with fail
      go_ret
      exact ⟨by rw [HR.out]; rfl, HB1.out.trans (hb2.mono HB1.out.size)⟩
    · have HR := Lib.hid hres
      clear hres HCASE
      refine wp_region_below (by kernel_rfl) (by kernel_rfl) ?_
      repeat (go_big_quiet_step ((first | (go_at_call 39; exact below_calls (SM.out _)) | (go_at_call 17; exact below_calls (ISX.out _ (IP.out _))))))
      refine wpQuiet_nil ?_
      rintro _ ⟨⟨w2, hb2⟩, rfl⟩
      go_wp2_with fail
      go_ret
      exact ⟨by rw [HR.out]; rfl, HB1.out.trans (hb2.mono HB1.out.size)⟩
theorem tabTail_any (p B M pb bm : Nat) (S : List Txt) (t : Txt) (ws : List Int) (ms : List Txt) (vw vs vo : Value) (ord : List Nat) (base N : Nat) (w : World) (h : TabAt w base p B M ws ms vw vs vo ord) (hO : OrdIs ws ms N ord) (hN : N ≤ ws.length) (hwm : ws.length = ms.length) (hl : ws.length ≤ 1000000)
    (hM : N * B ≤ M) (hM2 : M ≤ 1000000) (hB : B ≤ 1024) (hI : IdealAt w pb bm S) (ht : t.length ≤ 100000) (hS : S.length ≤ 1000000) :
    Calls Tryz.prog 66 #[.pointer (some ⟨p, 0, none⟩), .pointer (some ⟨pb, 0, none⟩), .string ⟨t.toArray⟩] w fun e w' => e = .returned (.bool (tailZ (isS S t) ws ms N B M t)) ∧ Below w.heap.size w w' :=
  tabTail_ask p B M pb _ _ _ (ask_ideal pb bm S hS) t ws ms vw vs vo ord base N w h hO hN hwm hl hM hM2 hB hI ht (by decide)
end Go.Proofs.YtpkgjokehgihjaaGreat
