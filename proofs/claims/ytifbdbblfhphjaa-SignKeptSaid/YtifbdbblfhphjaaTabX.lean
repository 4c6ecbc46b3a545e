/- Several texts in one: SearchW, RunW, Run2W. -/
import Derived.Test.YtifbdbblfhphjaaBookW
import Derived.Test.YtifbdbblfhphjaaCmpW
import Derived.Test.YtifbdbblfhphjaaFrame
import Derived.Test.YtifbdbblfhphjaaGen
import Derived.Test.YtifbdbblfhphjaaMarkMath
import Derived.Test.YtifbdbblfhphjaaNewTabW
import Derived.Test.YtifbdbblfhphjaaOwnL
import Derived.Test.YtifbdbblfhphjaaProg
import Derived.Test.YtifbdbblfhphjaaReadMath
import Derived.Test.YtifbdbblfhphjaaReadW
import Derived.Test.YtifbdbblfhphjaaRefNumW
import Derived.Test.YtifbdbblfhphjaaRefReadW
import Derived.Test.YtifbdbblfhphjaaRollMath
import Derived.Test.YtifbdbblfhphjaaRows
import Derived.Test.YtifbdbblfhphjaaShelf
import Derived.Test.YtifbdbblfhphjaaSigAt
import Derived.Test.YtifbdbblfhphjaaSignMath
import Derived.Test.YtifbdbblfhphjaaSortX
import Derived.Test.YtifbdbblfhphjaaSortEW
import Derived.Test.YtifbdbblfhphjaaSortFW
import Derived.BigQuiet
import Derived.BigRegion
import Derived.Deep.CutBlock
import Derived.Deep.DeepCutAuto
import Derived.Deep.QuietTactic
import Derived.Deep.RegionHeld3
import Derived.Deep.RegionLaw
import Derived.IntWalk
import Derived.Laws.BitsAllLaws
import Derived.Laws.MakeOwn
import Derived.Laws.Rows
import Derived.Laws.Tables
import Derived.Lib.Hide
import Derived.Outline
import Derived.StillTailTactics
import Derived.WalkKit
import Derived.WalkLawsBesides
import Derived.WalkSpells
import Derived.Test.YtifbdbblfhphjaaInfos
import Derived.Test.YtifbdbblfhphjaaSameW
import Derived.Test.YtifbdbblfhphjaaSigOfW
import Derived.Test.YtifbdbblfhphjaaSignReadsW
import Derived.Test.YtifbdbblfhphjaaSAwakeW
/- The library's Search, and how a table's blocks of one weak sum are found: walked. -/
set_option linter.unusedVariables false
namespace Go.Proofs.Ytifbdbblfhphjaa
open Go.RowKit

def SearchPost (pr : Nat → Bool) (n : Nat) (w : World) (e : Ending) (w' : World) : Prop :=
  ∃ j : Nat, j ≤ n ∧ e = .returned (.int .i64 j) ∧ (∀ k, k < j → pr k = false) ∧ (∀ k, j ≤ k → k < n → pr k = true) ∧ ∃ q, w' = w.drewN q

set_option maxRecDepth 100000 in
set_option maxHeartbeats 1000000 in
theorem search_any (f : Nat) (cb : Array Value) (pr : Nat → Bool) (n : Nat) (w : World) (eg : ∀ (args : Array Value) (w : World), (callFunc f args).run Try.prog w = .ok (.enter f args) w)
    (hf : ∀ m i : Nat, i < n → Calls Try.prog f (#[.int .i64 i] ++ cb) (w.drewN m) fun e w' => e = .returned (.bool (pr i)) ∧ ∃ q, w' = (w.drewN m).drewN q) (hmono : ∀ a b, a ≤ b → b < n → pr a = true → pr b = true) (hn : n ≤ 1000000) :
    Calls Try.prog 99 #[.int .i64 n, .func (.func f) #[] cb] w (SearchPost pr n w) := by
  have HF := Lib.hid hf; clear hf
  have HM := Lib.hid hmono; clear hmono
  go_enter Try.func99, Try.ntmps99
  go_wp2_with fail
  go_loopw [5, 6, 7] (fun u v x wr => ∃ i j q : Nat, i ≤ j ∧ j ≤ n ∧ u = .int .i64 i ∧ v = .int .i64 j ∧ wr = w.drewN q ∧ Hid ((∀ k, k < i → pr k = false) ∧ (∀ k, j ≤ k → k < n → pr k = true))) (fun u v _ _ => (intOf v).toNat - (intOf u).toNat)
  case atStart => exact ⟨0, n, 0, by omega, by omega, rfl, rfl, rfl, Lib.hid ⟨fun k h1 => by omega, fun k h1 h2 => by omega⟩⟩
  case round =>
    obtain ⟨i, j, q, hij, hj, rfl, rfl, rfl, HS⟩ := hrel
    by_cases hlt : i < j
    · obtain ⟨h, hh⟩ : ∃ h, h = (i + j) / 2 := ⟨_, rfl⟩
      have E : ((i : Int) + (j : Int)) / 2 = (h : Int) := by omega
      have hih : i ≤ h := by omega
      have hhj : h < j := by omega
      clear hh
      have CC := Lib.hid (HF.out q h (by omega))
      cases hp : pr h with
      | false =>
        rw [hp] at CC
        have HS2 := Lib.hid (show ∀ k, k < h + 1 → pr k = false from fun k hk => by
          cases c : pr k with
          | false => rfl
          | true => have := HM.out k h (by omega) (by omega) c; rw [hp] at this; cases this)
        clear hp
        go_wp2_with (go_at_fn f; refine CC.out.mono ?_; rintro e w' ⟨rfl, nq, rfl⟩)
        go_roundw
        case rel => exact ⟨h + 1, j, q + nq, by omega, hj, by go_num, rfl, rfl, Lib.hid ⟨HS2.out, HS.out.2⟩⟩
        case measure => simp [intOf]; omega
      | true =>
        rw [hp] at CC
        have HS2 := Lib.hid (show ∀ k, h ≤ k → k < n → pr k = true from fun k h1 h2 => HM.out h k h1 h2 hp)
        clear hp
        go_wp2_with (go_at_fn f; refine CC.out.mono ?_; rintro e w' ⟨rfl, nq, rfl⟩)
        go_roundw
        case rel => exact ⟨i, h, q + nq, by omega, by omega, rfl, rfl, rfl, Lib.hid ⟨HS.out.1, HS2.out⟩⟩
        case measure => simp [intOf]; omega
    · obtain rfl : i = j := by omega
      go_wp2_with fail
      go_ret
      exact ⟨i, hj, rfl, HS.out.1, HS.out.2, q, rfl⟩
theorem cut_exists (pr : Nat → Bool) (n : Nat) (hmono : ∀ a b, a ≤ b → b < n → pr a = true → pr b = true) : ∃ j, j ≤ n ∧ (∀ k, k < j → pr k = false) ∧ (∀ k, j ≤ k → k < n → pr k = true) := by
  induction n with
  | zero => exact ⟨0, by omega, fun k h => by omega, fun k h1 h2 => by omega⟩
  | succ n ih =>
    obtain ⟨j, hj, h1, h2⟩ := ih (fun a b hab hb => hmono a b hab (by omega))
    by_cases e : j = n
    · cases hp : pr n with
      | false => exact ⟨n + 1, by omega, fun k hk => by by_cases c : k = n; (rw [c]; exact hp); exact h1 k (by omega), fun k h3 h4 => by omega⟩
      | true => exact ⟨n, by omega, fun k hk => h1 k (by omega), fun k h3 h4 => by rw [show k = n by omega]; exact hp⟩
    · exact ⟨j, by omega, h1, fun k h3 h4 => by
        by_cases c : k = n
        · exact hmono j k h3 h4 (h2 j (Nat.le_refl _) (by omega))
        · exact h2 k h3 (by omega)⟩
theorem search_at (f : Nat) (cb : Array Value) (pr : Nat → Bool) (n j : Nat) (w : World) (eg : ∀ (args : Array Value) (w : World), (callFunc f args).run Try.prog w = .ok (.enter f args) w)
    (hf : ∀ m i : Nat, i < n → Calls Try.prog f (#[.int .i64 i] ++ cb) (w.drewN m) fun e w' => e = .returned (.bool (pr i)) ∧ ∃ q, w' = (w.drewN m).drewN q) (hn : n ≤ 1000000) (hj : j ≤ n) (h1 : ∀ k, k < j → pr k = false) (h2 : ∀ k, j ≤ k → k < n → pr k = true) :
    Calls Try.prog 99 #[.int .i64 n, .func (.func f) #[] cb] w fun e w' => e = .returned (.int .i64 j) ∧ ∃ q, w' = w.drewN q := by
  refine (search_any f cb pr n w eg hf (fun a b hab hb ha => ?_) hn).mono ?_
  · have : j ≤ a := by
      by_cases c : a < j
      · rw [h1 a c] at ha; cases ha
      · omega
    exact h2 b (by omega) hb
  · rintro e w' ⟨i, hi, rfl, g1, g2, hq⟩
    have : i = j := by
      rcases Nat.lt_trichotomy i j with c | c | c
      · have := g2 i (Nat.le_refl _) (by omega); rw [h1 i c] at this; cases this
      · exact c
      · have := h2 j (Nat.le_refl _) (by omega); rw [g1 j c] at this; cases this
    subst this
    exact ⟨rfl, hq⟩
/-! ### Plain mathematics: what a table's run of a weak sum is -/
def wOf (ws : List Int) (i : Nat) : Int := ws.getD i 0
def mOf (ms : List Txt) (i : Nat) : Txt := ms.getD i []
def runS (ws : List Int) (ord : List Nat) (weak : Int) : List Nat := ord.filter (fun i => decide (wOf ws i = weak))
theorem OrdIs.mono {ws : List Int} {ms : List Txt} {N : Nat} {ord : List Nat} (h : OrdIs ws ms N ord) {a b : Nat} (hab : a ≤ b) (hb : b < ord.length) : wOf ws (ord[a]'(by omega)) ≤ wOf ws ord[b] := by
  by_cases e : a = b
  · subst e; exact Int.le_refl _
  · have := List.pairwise_iff_getElem.1 h.sorted a b (by omega) hb (by omega)
    rcases this with c | ⟨c, _⟩
    · rw [cvT_lt] at c
      show ws.getD _ 0 ≤ ws.getD _ 0
      rcases c with c | ⟨c, _⟩ <;> omega
    · rw [cvT_not] at c
      show ws.getD _ 0 ≤ ws.getD _ 0
      have : ¬ ws.getD ord[b] 0 < ws.getD (ord[a]'(by omega)) 0 := fun k => c (.inl k)
      omega
theorem OrdIs.lt {ws : List Int} {ms : List Txt} {N : Nat} {ord : List Nat} (h : OrdIs ws ms N ord) {a : Nat} (ha : a < ord.length) : ord[a] < N := List.mem_range.1 (h.perm.mem_iff.1 (List.getElem_mem ha))
theorem filter_none {α : Type} (p : α → Bool) (l : List α) (h : ∀ i (hi : i < l.length), p l[i] = false) : l.filter p = [] := by
  rw [List.filter_eq_nil_iff]
  intro x hx
  obtain ⟨i, hi, rfl⟩ := List.getElem_of_mem hx
  rw [h i hi]; simp
theorem filter_all {α : Type} (p : α → Bool) (l : List α) (h : ∀ i (hi : i < l.length), p l[i] = true) : l.filter p = l := by
  rw [List.filter_eq_self]
  intro x hx
  obtain ⟨i, hi, rfl⟩ := List.getElem_of_mem hx
  exact h i hi
theorem runS_eq {ws : List Int} {ord : List Nat} {weak : Int} {a b : Nat} (hb : a + b ≤ ord.length) (h1 : ∀ k (h : k < ord.length), k < a → wOf ws ord[k] < weak) (h2 : ∀ k (h : k < ord.length), a ≤ k → k < a + b → wOf ws ord[k] = weak) (h3 : ∀ k (h : k < ord.length), a + b ≤ k → weak < wOf ws ord[k]) :
    (ord.drop a).take b = runS ws ord weak := by
  have e : ord = ord.take a ++ ((ord.drop a).take b ++ (ord.drop a).drop b) := by rw [List.take_append_drop, List.take_append_drop]
  unfold runS
  conv => rhs; rw [e]
  rw [List.filter_append, List.filter_append, filter_none _ (ord.take a), filter_all _ ((ord.drop a).take b), filter_none _ ((ord.drop a).drop b)]
  · simp
  · intro i hi
    simp only [List.length_drop] at hi
    rw [List.getElem_drop, List.getElem_drop]
    have := h3 (a + (b + i)) (by omega) (by omega)
    simp; omega
  · intro i hi
    simp only [List.length_take, List.length_drop] at hi
    rw [List.getElem_take, List.getElem_drop]
    have := h2 (a + i) (by omega) (by omega) (by omega)
    simp [this]
  · intro i hi
    simp only [List.length_take] at hi
    rw [List.getElem_take]
    have := h1 i (by omega) (by omega)
    simp; omega
end Go.Proofs.Ytifbdbblfhphjaa
/- The walk of a table's run: the blocks of one weak sum, as they stand in the order. -/
set_option linter.unusedVariables false
namespace Go.Proofs.Ytifbdbblfhphjaa
open Go.RowKit

/-- What the closures read. -/
structure RunAt (w : World) (q x p : Nat) (B M : Nat) (ws : List Int) (vw vs vo : Value) (ord : List Nat) (weak : Int) : Prop where
  var : VarAt w q p B M vw vs vo
  box : w.heap[x]? = some (.cells #[.int .i64 weak] 3 (0, 0))
  rw : Row (Value.int .i64) (fun _ => True) w vw ws
  ro : RowC encN 0 w vo ord
theorem RowC.at {α : Type} {enc : α → Value} {base : Nat} {w : World} {v : Value} {xs : List α} (h : RowC enc base w v xs) {k : Nat} (hk : k < xs.length) : ∃ g o c, v = .slice (some ⟨g, o, none⟩) xs.length c ∧ w.cell? ⟨g, o + k, none⟩ = some (enc xs[k]) := by
  rcases h with ⟨_, rfl⟩ | ⟨g, o, c, rfl, _, _, hc⟩
  · simp at hk
  · exact ⟨g, o, c, rfl, hc k hk⟩
theorem Row.at {α : Type} {enc : α → Value} {N : Nat → Prop} {w : World} {v : Value} {xs : List α} (h : Row enc N w v xs) {k : Nat} (hk : k < xs.length) : ∃ g o c, v = .slice (some ⟨g, o, none⟩) xs.length c ∧ w.cell? ⟨g, o + k, none⟩ = some (enc xs[k]) := by
  obtain ⟨a, c, rfl, hc⟩ := h
  obtain ⟨b, o, rfl, _, hcell⟩ := hc k hk
  exact ⟨b, o, c, rfl, hcell⟩
theorem RowC.keep {α : Type} {enc : α → Value} {base : Nat} {w w' : World} {v : Value} {xs : List α} (h : RowC enc base w v xs) (hb : Below w.heap.size w w') : RowC enc base w' v xs := by
  rcases h with h | ⟨g, o, c, rfl, h1, h2, hc⟩
  · exact .inl h
  · exact .inr ⟨g, o, c, rfl, h1, h2, fun i hi => (hb.cell (p := ⟨g, o + i, none⟩) (World.block_lt_of_cell? w _ (hc i hi))).trans (hc i hi)⟩
theorem RowC.mono {α : Type} {enc : α → Value} {base base' : Nat} {w : World} {v : Value} {xs : List α} (h : RowC enc base w v xs) (hb : base' ≤ base) : RowC enc base' w v xs := by
  rcases h with h | ⟨g, o, c, rfl, h1, h2, hc⟩
  · exact .inl h
  · exact .inr ⟨g, o, c, rfl, by omega, h2, hc⟩
theorem RunAt.keep {w w' : World} {q x p B M : Nat} {ws : List Int} {vw vs vo : Value} {ord : List Nat} {weak : Int} (h : RunAt w q x p B M ws vw vs vo ord weak) (hb : Below w.heap.size w w') : RunAt w' q x p B M ws vw vs vo ord weak :=
  ⟨⟨old_of hb h.var.var, old_of hb h.var.tab⟩, old_of hb h.box, h.rw.keep hb, h.ro.keep hb⟩
theorem RunAt.drewN {w : World} {q x p B M : Nat} {ws : List Int} {vw vs vo : Value} {ord : List Nat} {weak : Int} (h : RunAt w q x p B M ws vw vs vo ord weak) (m : Nat) : RunAt (w.drewN m) q x p B M ws vw vs vo ord weak := h.keep (Below_drewN (Below.refl _ _) m)
theorem wOf_get {ws : List Int} {i : Nat} (h : i < ws.length) : wOf ws i = ws[i] := by unfold wOf; rw [List.getD_eq_getElem?_getD, List.getElem?_eq_getElem h, Option.getD_some]
theorem mOf_get {ms : List Txt} {i : Nat} (h : i < ms.length) : mOf ms i = ms[i] := by unfold mOf; rw [List.getD_eq_getElem?_getD, List.getElem?_eq_getElem h, Option.getD_some]

set_option maxRecDepth 100000 in
set_option maxHeartbeats 1000000 in
theorem run1_any (q x p B M : Nat) (ws : List Int) (vw vs vo : Value) (ord : List Nat) (weak : Int) (k : Nat) (w : World) (h : RunAt w q x p B M ws vw vs vo ord weak) (hk : k < ord.length) (hi : ord[k] < ws.length) (hl : ws.length ≤ 1000000) (hol : ord.length ≤ 1000000) :
    Calls Try.prog 100 #[.int .i64 k, .pointer (some ⟨q, 0, none⟩), .pointer (some ⟨x, 0, none⟩)] w fun e w' => e = .returned (.bool (decide (weak ≤ wOf ws ord[k]))) ∧ ∃ m, w' = w.drewN m := by
  rw [wOf_get hi]
  obtain ⟨g1, o1, c1, rfl, x1⟩ := h.ro.at hk
  obtain ⟨g2, o2, c2, rfl, x2⟩ := h.rw.at hi
  obtain ⟨d0, d1, d2, d3, d4⟩ := tab_c h.var.tab
  have dv := var_c h.var.var
  have dx := var_c h.box
  clear d0 d1 d3 h
  generalize ws[ord[k]] = u at *
  unfold encN at x1
  generalize ord[k] = i at *
  have i1 : (0 : Int) ≤ (k : Int) := by omega
  have i2 : (k : Int) < (ord.length : Int) := by omega
  have i3 : (0 : Int) ≤ (i : Int) := by omega
  have i4 : (i : Int) < (ws.length : Int) := by omega
  go_enter Try.func100, Try.ntmps100
  go_wp2
  go_quiet (fail)
  go_wp2
  go_ret
  exact ⟨rfl, _, rfl⟩
set_option maxRecDepth 100000 in
set_option maxHeartbeats 1000000 in
theorem run2_any (q x f p B M : Nat) (ws : List Int) (vw vs vo : Value) (ord : List Nat) (weak : Int) (a k : Nat) (w : World) (h : RunAt w q x p B M ws vw vs vo ord weak) (hf : w.heap[f]? = some (.cells #[.int .i64 a] 3 (0, 0))) (hk : a + k < ord.length) (hi : ord[a + k] < ws.length) (hl : ws.length ≤ 1000000) (hol : ord.length ≤ 1000000) :
    Calls Try.prog 101 #[.int .i64 k, .pointer (some ⟨q, 0, none⟩), .pointer (some ⟨f, 0, none⟩), .pointer (some ⟨x, 0, none⟩)] w fun e w' => e = .returned (.bool (decide (weak < wOf ws ord[a + k]))) ∧ ∃ m, w' = w.drewN m := by
  rw [wOf_get hi]
  obtain ⟨g1, o1, c1, rfl, x1⟩ := h.ro.at hk
  obtain ⟨g2, o2, c2, rfl, x2⟩ := h.rw.at hi
  obtain ⟨d0, d1, d2, d3, d4⟩ := tab_c h.var.tab
  have dv := var_c h.var.var
  have dx := var_c h.box
  have df := var_c hf
  clear d0 d1 d3 h hf
  generalize ws[ord[a + k]] = u at *
  unfold encN at x1
  generalize ord[a + k] = i at *
  obtain ⟨z, hz⟩ : ∃ z, z = a + k := ⟨_, rfl⟩
  rw [← hz] at x1
  have W1 : IntKind.i64.wrap ((a : Int) + (k : Int)) = (z : Int) := by rw [IntWalk.i64_in _ (by omega)]; omega
  have W2 : (a : Int) + (k : Int) = (z : Int) := by omega
  have i1 : (0 : Int) ≤ (z : Int) := by omega
  have i2 : (z : Int) < (ord.length : Int) := by omega
  have i3 : (0 : Int) ≤ (i : Int) := by omega
  have i4 : (i : Int) < (ws.length : Int) := by omega
  clear hz hk
  go_enter Try.func101, Try.ntmps101
  go_wp2
  go_quiet (fail)
  go_wp2
  go_ret
  exact ⟨rfl, _, rfl⟩
theorem enters_run1 : ∀ (args : Array Value) (w : World), (callFunc 100 args).run Try.prog w = .ok (.enter 100 args) w := enters_of Try.func100 (by kernel_rfl) rfl
theorem enters_run2 : ∀ (args : Array Value) (w : World), (callFunc 101 args).run Try.prog w = .ok (.enter 101 args) w := enters_of Try.func101 (by kernel_rfl) rfl
end Go.Proofs.Ytifbdbblfhphjaa
/- The walk of a table's run. -/
set_option linter.unusedVariables false
namespace Go.Proofs.Ytifbdbblfhphjaa
open Go.RowKit

def RunPost (w : World) (l : List Nat) (e : Ending) (w' : World) : Prop := ∃ v, e = .returned v ∧ RowC encN 0 w' v l ∧ Below w.heap.size w w'
theorem ord_getD {ord : List Nat} {k : Nat} (hk : k < ord.length) : ord.getD k 0 = ord[k] := by rw [List.getD_eq_getElem?_getD, List.getElem?_eq_getElem hk, Option.getD_some]

set_option maxRecDepth 100000 in
set_option maxHeartbeats 4000000 in
theorem run_any (p B M : Nat) (ws : List Int) (ms : List Txt) (vw vs vo : Value) (ord : List Nat) (base N : Nat) (weak : Int) (w : World) (h : TabAt w base p B M ws ms vw vs vo ord) (hO : OrdIs ws ms N ord) (hN : N ≤ ws.length) (hl : ws.length ≤ 1000000) :
    Calls Try.prog 74 #[.pointer (some ⟨p, 0, none⟩), .int .i64 weak] w (RunPost w (runS ws ord weak)) := by
  have HO := Lib.hid hO
  have hol : ord.length ≤ 1000000 := by have := hO.len; omega
  have HT := Lib.hid h
  have HW := Lib.hid (show ∀ k (hk : k < ord.length), ord[k] < ws.length from fun k hk => by have := hO.lt hk; omega)
  clear hN
  have K1 := Lib.hid ((below_self_alloc w (.cells #[.pointer (some ⟨p, 0, none⟩)] 51)).trans ((below_self_alloc (w.alloc (.cells #[.pointer (some ⟨p, 0, none⟩)] 51)) (.cells #[.int .i64 weak] 3)).mono (by simp)))
  have R0 := Lib.hid (show RunAt ((w.alloc (.cells #[.pointer (some ⟨p, 0, none⟩)] 51)).alloc (.cells #[.int .i64 weak] 3)) w.heap.size (w.heap.size + 1) p B M ws vw vs vo ord weak from
    ⟨⟨heap_alloc2_old _ _ _, old_of K1.out h.tab⟩, heap_alloc2_new _ _ _, (h.rw.keep K1.out).mono (fun _ _ => trivial), (h.ro.keep K1.out).mono (Nat.zero_le _)⟩)
  clear hO h HT
  obtain ⟨a, ha, hlo, hhi⟩ := cut_exists (fun k => decide (weak ≤ wOf ws (ord.getD k 0))) ord.length (fun a b hab hb ha => by
      rw [ord_getD (by omega), decide_eq_true_eq] at ha
      rw [ord_getD hb, decide_eq_true_eq]
      exact Int.le_trans ha (HO.out.mono hab hb))
  obtain ⟨c, hc, hlo2, hhi2⟩ := cut_exists (fun k => decide (weak < wOf ws (ord.getD (a + k) 0))) (ord.length - a) (fun x y hab hb ha => by
      rw [ord_getD (by omega), decide_eq_true_eq] at ha
      rw [ord_getD (by omega), decide_eq_true_eq]
      exact Int.lt_of_lt_of_le ha (HO.out.mono (by omega) (by omega)))
  have SE1 := Lib.hid (fun W (hW : RunAt W w.heap.size (w.heap.size + 1) p B M ws vw vs vo ord weak) => search_at 100 #[.pointer (some ⟨w.heap.size, 0, none⟩), .pointer (some ⟨w.heap.size + 1, 0, none⟩)] (fun k => decide (weak ≤ wOf ws (ord.getD k 0))) ord.length a W enters_run1
    (fun m i hi => by rw [ord_getD hi]; exact run1_any _ _ p B M ws vw vs vo ord weak i (W.drewN m) (hW.drewN m) hi (HW.out i hi) hl hol) hol ha hlo hhi)
  have SE2 := Lib.hid (fun W f (hW : RunAt W w.heap.size (w.heap.size + 1) p B M ws vw vs vo ord weak) (hf : W.heap[f]? = some (.cells #[.int .i64 (a : Nat)] 3 (0, 0))) => search_at 101 #[.pointer (some ⟨w.heap.size, 0, none⟩), .pointer (some ⟨f, 0, none⟩), .pointer (some ⟨w.heap.size + 1, 0, none⟩)] (fun k => decide (weak < wOf ws (ord.getD (a + k) 0))) (ord.length - a) c W enters_run2
    (fun m i hi => by rw [ord_getD (by omega)]; exact run2_any _ _ f p B M ws vw vs vo ord weak a i (W.drewN m) (hW.drewN m) hf (by omega) (HW.out _ (by omega)) hl hol) (by omega) hc hlo2 hhi2)
  have HR := Lib.hid (show (ord.drop a).take c = runS ws ord weak from runS_eq (by omega)
    (fun k hk hka => by have := hlo k hka; rw [ord_getD hk, decide_eq_false_iff_not] at this; omega)
    (fun k hk hka hkc => by
      have h1 := hhi k hka hk
      have h2 := hlo2 (k - a) (by omega)
      rw [show a + (k - a) = k by omega] at h2
      rw [ord_getD hk, decide_eq_true_eq] at h1
      rw [ord_getD hk, decide_eq_false_iff_not] at h2
      omega)
    (fun k hk hkc => by
      have h2 := hhi2 (k - a) (by omega) (by omega)
      rw [show a + (k - a) = k by omega, ord_getD hk, decide_eq_true_eq] at h2
      exact h2))
  generalize runS ws ord weak = rs at *
  clear hlo hhi hlo2 hhi2 HO HW
  obtain ⟨ao, mo, co, rfl⟩ : ∃ a m c, vo = .slice a m c := by
    rcases R0.out.ro with ⟨rfl, _⟩ | ⟨g, o, c, rfl, _⟩ <;> exact ⟨_, _, _, rfl⟩
  have hmo : mo = ord.length := by
    rcases R0.out.ro with ⟨e, e2⟩ | ⟨g, o, c, e, _⟩
    · injection e with _ e3 _; rw [e2, e3]; rfl
    · injection e
  subst hmo
  have d0 := (tab_c R0.out.var.tab).2.2.2.2
  have dq := var_c R0.out.var.var
  go_enter Try.func74, Try.ntmps74
  go_wp2_with fail
  generalize (w.alloc (.cells #[.pointer (some ⟨p, 0, none⟩)] 51)).alloc (.cells #[.int .i64 weak] 3) = w1 at *
  refine (SE1.out _ R0.out).mono ?_
  rintro e w2 ⟨rfl, q1, hw2⟩
  have R2 := Lib.hid (show RunAt w2 w.heap.size (w.heap.size + 1) p B M ws vw vs (.slice ao ord.length co) ord weak by rw [hw2]; exact R0.out.drewN q1)
  have K2 := Lib.hid (show Below w.heap.size w w2 by rw [hw2]; exact Below_drewN K1.out q1)
  have R3 := Lib.hid (R2.out.keep (below_self_alloc w2 (.cells #[.int .i64 (a : Nat)] 3)))
  have K3 := Lib.hid (below_alloc K2.out (.cells #[.int .i64 (a : Nat)] 3))
  have F3 := Lib.hid (heap_alloc_new w2 (.cells #[.int .i64 (a : Nat)] 3))
  clear hw2 d0 dq R0 R2 K1 K2 SE1
  obtain ⟨n2, hn2⟩ : ∃ n2, n2 = ord.length - a := ⟨_, rfl⟩
  have E1 : (ord.length : Int) - (a : Int) = (n2 : Int) := by omega
  have W1 : IntKind.i64.wrap ((ord.length : Int) - (a : Int)) = (n2 : Int) := by rw [IntWalk.i64_in _ (by omega), E1]
  obtain ⟨z, hz⟩ : ∃ z, z = a + c := ⟨_, rfl⟩
  have E2 : (a : Int) + (c : Int) = (z : Int) := by omega
  have W2 : IntKind.i64.wrap ((a : Int) + (c : Int)) = (z : Int) := by rw [IntWalk.i64_in _ (by omega), E2]
  have HZ := Lib.hid (show a ≤ z ∧ z ≤ ord.length ∧ z - a = c by omega)
  rw [← hn2] at SE2
  clear hn2 hz
  go_upto_region 2 with fail
  generalize w2.alloc (.cells #[.int .i64 a] 3) = w3 at *
  generalize w2.heap.size = f at *
  have S2 := Lib.hid (fun n => SE2.out (w3.drewN n) f (R3.out.drewN n) F3.out)
  have d0 := (tab_c R3.out.var.tab).2.2.2.2
  have dq := var_c R3.out.var.var
  have df := var_c F3.out
  clear SE2
  go_quiet ((go_at_call 99; refine Calls.quiet_of (S2.out _)))
  go_wp2
  have R4 := Lib.hid (R3.out.drewN nq)
  have K4 := Lib.hid (Below_drewN K3.out nq)
  have F4 : (w3.drewN nq).heap[f]? = _ := F3.out
  generalize w3.drewN nq = w4 at *
  clear d0 dq df R3 K3 F3 S2
  have d0 := (tab_c R4.out.var.tab).2.2.2.2
  have dq := var_c R4.out.var.var
  have df := var_c F4
  clear F4
  rcases R4.out.ro with ⟨e, h0⟩ | ⟨g, o, c', e, _, hcc, hcell⟩
  · injection e with e1 e2 e3
    subst e1; subst e3
    have hz := HZ.out
    rw [h0] at hz
    simp only [List.length_nil] at hz
    have ha0 : a = 0 := by omega
    have hc0 : c = 0 := by omega
    have hz0 : z = 0 := by omega
    have HRN := Lib.hid (show rs = [] by rw [← HR.out, h0]; simp)
    clear hz HR HZ R4 E1 W1 E2 W2 h0 ha hc
    subst ha0; subst hc0; subst hz0
    rw [e2] at d0
    go_quiet (fail)
    go_wp2
    go_ret
    exact ⟨_, rfl, .inl ⟨rfl, HRN.out⟩, Below_drewN K4.out _⟩
  · injection e with e1 e2 e3
    subst e1; subst e3
    have hz := HZ.out
    have i1 : (0 : Int) ≤ (a : Int) := by omega
    have i2 : (a : Int) ≤ (z : Int) := by omega
    have i3 : (z : Int) ≤ (co : Int) := by omega
    have i4 : (a : Int) ≤ (co : Int) := by omega
    have i5 : a ≤ z := by omega
    have i6 : z ≤ co := by omega
    have HL := Lib.hid (show rs.length = c by rw [← HR.out, List.length_take, List.length_drop]; omega)
    have HC := Lib.hid (show ∀ i (h : i < rs.length), w4.cell? ⟨g, o + a + i, none⟩ = some (encN rs[i]) by
      intro i hi
      have hi' : a + i < ord.length := by rw [HL.out] at hi; omega
      have e : rs[i] = ord[a + i] := by
        simp only [← HR.out]
        rw [List.getElem_take, List.getElem_drop]
      rw [e, show o + a + i = o + (a + i) by omega]
      exact hcell (a + i) hi')
    have hcc' := hcc
    clear hz hcell R4 HR E1 W1
    by_cases hca : co = a
    · have hza : z = a := by omega
      subst hca; subst hza
      have HRN := Lib.hid (show rs = [] from List.eq_nil_of_length_eq_zero (by rw [HL.out]; have := HZ.out; omega))
      go_quiet (fail)
      go_wp2
      go_ret
      exact ⟨_, rfl, .inr ⟨g, o, 0, by rw [HRN.out]; simp, Nat.zero_le _, by rw [HRN.out]; simp, fun i hi => by rw [HRN.out] at hi; simp at hi⟩, Below_drewN K4.out _⟩
    · have hcz := HZ.out.2.2
      have HZC := Lib.hid hcz; clear hcz
      go_quiet (fail)
      go_wp2
      all_goals
        go_ret
        exact ⟨_, rfl, .inr ⟨g, o + a, co - a, by rw [HL.out, ← HZC.out]; rfl, Nat.zero_le _, by rw [HL.out]; omega, HC.out⟩, Below_drewN K4.out _⟩
end Go.Proofs.Ytifbdbblfhphjaa
