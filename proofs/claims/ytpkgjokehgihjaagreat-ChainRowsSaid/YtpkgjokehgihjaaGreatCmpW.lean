/- The order of a table's blocks: by weak sum, by mark; the closure that tells it, walked. -/
import Derived.Test.YtpkgjokehgihjaaGreatFrame
import Derived.Test.YtpkgjokehgihjaaGreatGen
import Derived.Test.YtpkgjokehgihjaaGreatInfos
import Derived.Test.YtpkgjokehgihjaaGreatMarkMath
import Derived.Test.YtpkgjokehgihjaaGreatOwnL
import Derived.Test.YtpkgjokehgihjaaGreatProg
import Derived.Test.YtpkgjokehgihjaaGreatRollMath
import Derived.Test.YtpkgjokehgihjaaGreatRows
import Derived.Test.YtpkgjokehgihjaaGreatShelf
import Derived.Test.YtpkgjokehgihjaaGreatSigAt
import Derived.Test.YtpkgjokehgihjaaGreatSignMath
import Derived.Test.YtpkgjokehgihjaaGreatSortX
import Derived.Test.YtpkgjokehgihjaaGreatSortEW
import Derived.BigQuiet
import Derived.Deep.QuietTactic
import Derived.IntWalk
import Derived.Laws.Rows
import Derived.Laws.Tables
import Derived.Lib.Hide
import Derived.Outline
import Derived.Sort.Walk0
import Derived.WalkKit
import Derived.WalkLawsBesides
import Derived.WalkSpells
set_option linter.unusedVariables false
namespace Go.Proofs.YtpkgjokehgihjaaGreat
open Go.RowKit

/-! ### Plain mathematics -/
def cmpT (x y : Txt) : Int := if x < y then -1 else if y < x then 1 else 0
def cvT (ws : List Int) (ms : List Txt) (i k : Nat) : Int := if Lib.compareInt (ws.getD i 0) (ws.getD k 0) ≠ 0 then Lib.compareInt (ws.getD i 0) (ws.getD k 0) else cmpT (ms.getD i []) (ms.getD k [])
theorem txt_irr (x : Txt) : ¬ x < x := List.lt_irrefl x
theorem txt_tr {x y z : Txt} (h : x < y) (k : y < z) : x < z := List.lt_trans h k
theorem txt_total (x y : Txt) : x < y ∨ x = y ∨ y < x := by
  rcases Decidable.em (x < y) with h | h
  · exact .inl h
  · rcases Decidable.em (y < x) with k | k
    · exact .inr (.inr k)
    · exact .inr (.inl (List.le_antisymm k h))
theorem compareInt_lt (x y : Int) : Lib.compareInt x y < 0 ↔ x < y := by unfold Lib.compareInt; grind
theorem compareInt_eq (x y : Int) : Lib.compareInt x y = 0 ↔ x = y := by unfold Lib.compareInt; grind
theorem cmpT_lt (x y : Txt) : cmpT x y < 0 ↔ x < y := by
  unfold cmpT
  by_cases h : x < y
  · simp [h]
  · rw [if_neg h]; split <;> simp [h]
/-- Block i stands ahead of block k. -/
theorem cvT_lt (ws : List Int) (ms : List Txt) (i k : Nat) : ltOf (cvT ws ms) i k = true ↔ ws.getD i 0 < ws.getD k 0 ∨ (ws.getD i 0 = ws.getD k 0 ∧ ms.getD i [] < ms.getD k []) := by
  unfold ltOf cvT
  rw [decide_eq_true_eq]
  have h1 := compareInt_lt (ws.getD i 0) (ws.getD k 0)
  have h2 := compareInt_eq (ws.getD i 0) (ws.getD k 0)
  split
  · rename_i h
    rw [h1]
    constructor
    · exact .inl
    · rintro (h3 | ⟨h3, _⟩)
      · exact h3
      · exact absurd (h2.2 h3) h
  · rename_i h
    have h3 := h2.1 (Decidable.not_not.1 h)
    rw [cmpT_lt]
    constructor
    · exact fun h4 => .inr ⟨h3, h4⟩
    · rintro (h4 | ⟨_, h4⟩)
      · omega
      · exact h4
theorem cvT_not (ws : List Int) (ms : List Txt) (i k : Nat) : ltOf (cvT ws ms) i k = false ↔ ¬ (ws.getD i 0 < ws.getD k 0 ∨ (ws.getD i 0 = ws.getD k 0 ∧ ms.getD i [] < ms.getD k [])) := by
  rw [← cvT_lt, Bool.not_eq_true]
theorem cvT_swo (ws : List Int) (ms : List Txt) : SWo (ltOf (cvT ws ms)) := by
  refine ⟨fun x => ?_, fun x y z h k => ?_, fun x y z h k => ?_⟩
  · rw [cvT_not]
    rintro (h | ⟨_, h⟩)
    · omega
    · exact txt_irr _ h
  · rw [cvT_lt] at h k ⊢
    rcases h with h | ⟨h, h'⟩ <;> rcases k with k | ⟨k, k'⟩
    · left; omega
    · left; omega
    · left; omega
    · exact .inr ⟨h.trans k, txt_tr h' k'⟩
  · rw [cvT_not] at h k ⊢
    rintro (g | ⟨g, g'⟩)
    · have h1 : ¬ ws.getD x 0 < ws.getD y 0 := fun c => h (.inl c)
      have h2 : ¬ ws.getD y 0 < ws.getD z 0 := fun c => k (.inl c)
      omega
    · have h1 : ¬ ws.getD x 0 < ws.getD y 0 := fun c => h (.inl c)
      have h2 : ¬ ws.getD y 0 < ws.getD z 0 := fun c => k (.inl c)
      have e1 : ws.getD x 0 = ws.getD y 0 := by omega
      have e2 : ws.getD y 0 = ws.getD z 0 := by omega
      have h3 : ¬ ms.getD x [] < ms.getD y [] := fun c => h (.inr ⟨e1, c⟩)
      have h4 : ¬ ms.getD y [] < ms.getD z [] := fun c => k (.inr ⟨e2, c⟩)
      rcases txt_total (ms.getD x []) (ms.getD y []) with c | c | c
      · exact h3 c
      · rw [c] at g'; exact h4 g'
      · exact h4 (txt_tr c g')

/-! ### The library's Compare of texts -/
theorem isNaN_str (x : ByteArray) (w : World) : Calls Tryz.prog 84 #[.string x] w fun e w' => e = .returned (.bool false) ∧ w = w' := by
  have q : (x.toList != x.toList) = false := by simp
  go_enter Tryz.func84, Tryz.ntmps84
  go_wp2
  go_ret
  exact ⟨by simp, rfl⟩
set_option maxRecDepth 100000 in
theorem compareT_any (x y : Txt) (w : World) : Calls Tryz.prog 55 #[.string ⟨x.toArray⟩, .string ⟨y.toArray⟩] w fun e w' => e = .returned (.int .i64 (cmpT x y)) ∧ w = w' := by
  have NX := fun x w' => Lib.hid (isNaN_str x w')
  have L : ∀ z : Txt, (⟨z.toArray⟩ : ByteArray).toList = z := fun z => by rw [Lib.toList_data]
  have l1 := L x
  have l2 := L y
  clear L
  have e1 := bytesLess_eq x y
  rcases txt_total x y with h | h | h
  · have b1 : Op.bytesLess x y = true := by rw [e1]; simp [h]
    have E := Lib.hid (show cmpT x y = -1 by unfold cmpT; rw [if_pos h])
    clear e1 h
    go_enter Tryz.func55, Tryz.ntmps55
    go_wp2_with (go_at_call 84; refine (NX _ _).out.mono ?_; rintro e w' ⟨rfl, rfl⟩)
    go_ret
    exact ⟨by rw [E.out]; rfl, rfl⟩
  · subst h
    have b1 : Op.bytesLess x x = false := by rw [e1]; simp
    have b2 : (x == x) = true := by simp
    have E := Lib.hid (show cmpT x x = 0 by unfold cmpT; rw [if_neg (txt_irr x), if_neg (txt_irr x)])
    clear e1 l2
    go_enter Tryz.func55, Tryz.ntmps55
    go_wp2_with (go_at_call 84; refine (NX _ _).out.mono ?_; rintro e w' ⟨rfl, rfl⟩)
    go_ret
    exact ⟨by rw [E.out]; rfl, rfl⟩
  · have hn : ¬ x < y := fun c => txt_irr _ (txt_tr c h)
    have b1 : Op.bytesLess x y = false := by rw [e1]; simp [hn]
    have b2 : (x == y) = false := by
      rw [beq_eq_false_iff_ne]
      rintro rfl
      exact txt_irr _ h
    have E := Lib.hid (show cmpT x y = 1 by unfold cmpT; rw [if_neg hn, if_pos h])
    clear e1 h hn
    go_enter Tryz.func55, Tryz.ntmps55
    go_wp2_with (go_at_call 84; refine (NX _ _).out.mono ?_; rintro e w' ⟨rfl, rfl⟩)
    go_ret
    exact ⟨by rw [E.out]; rfl, rfl⟩

/-! ### A table's block and the closure -/
abbrev tabC (b n : Int) (vw vs vo : Value) : Obj := .cells #[.int .i64 b, .int .i64 n, vw, vs, vo] 110 (0, 0)
/-- A variable that points to a table. -/
structure VarAt (w : World) (q p : Nat) (b n : Int) (vw vs vo : Value) : Prop where
  var : w.heap[q]? = some (.cells #[.pointer (some ⟨p, 0, none⟩)] 82 (0, 0))
  tab : w.heap[p]? = some (tabC b n vw vs vo)
section
variable {w w' : World} {p q : Nat} {b n : Int} {vw vs vo : Value}
theorem tab_c (h : w.heap[p]? = some (tabC b n vw vs vo)) : w.cell? ⟨p, 0, none⟩ = some (.int .i64 b) ∧ w.cell? ⟨p, 1, none⟩ = some (.int .i64 n) ∧ w.cell? ⟨p, 2, none⟩ = some vw ∧ w.cell? ⟨p, 3, none⟩ = some vs ∧ w.cell? ⟨p, 4, none⟩ = some vo := by
  refine ⟨?_, ?_, ?_, ?_, ?_⟩ <;> (rw [cell_of_row _ _ _ _ _ _ h]; rfl)
theorem var_c {v : Value} {t : TypeId} (h : w.heap[q]? = some (.cells #[v] t (0, 0))) : w.cell? ⟨q, 0, none⟩ = some v := by rw [cell_of_row _ _ _ _ _ _ h]; rfl
theorem VarAt.kept {M : Nat → Prop} (h : VarAt w q p b n vw vs vo) (hk : Kept M w w') (hq : ¬ M q) (hp : ¬ M p) : VarAt w' q p b n vw vs vo := ⟨hk.old h.var hq, hk.old h.tab hp⟩
end
theorem row_kept {α : Type} {enc : α → Value} {N : Nat → Prop} {M : Nat → Prop} {w w' : World} {v : Value} {xs : List α} (h : Row enc N w v xs) (hk : Kept M w w') (hM : ∀ k, N k → ¬ M k) : Row enc N w' v xs := by
  obtain ⟨a, c, rfl, hc⟩ := h
  refine ⟨a, c, rfl, fun i hi => ?_⟩
  obtain ⟨b, o, rfl, hn, hcell⟩ := hc i hi
  refine ⟨b, o, rfl, hn, ?_⟩
  have hb := World.block_lt_of_cell? w _ hcell
  unfold World.cell? at hcell ⊢
  rw [hk.block b hb (hM b hn)]
  exact hcell

set_option maxRecDepth 100000 in
set_option maxHeartbeats 1000000 in
/-- The closure of NewTable's sort. -/
theorem cmpBlocks_any (b n : Int) (ws : List Int) (ms : List Txt) (vw vs vo : Value) (N1 N2 : Nat → Prop) (q p i k : Nat) (w : World) (hV : VarAt w q p b n vw vs vo) (h1 : Row (Value.int .i64) N1 w vw ws) (h2 : Row encT N2 w vs ms) (hi : i < ws.length) (hk : k < ws.length) (hi2 : i < ms.length) (hk2 : k < ms.length) (hl : ws.length ≤ 1000000) (hl2 : ms.length ≤ 1000000) :
    Calls Tryz.prog 53 #[.int .i64 i, .int .i64 k, .pointer (some ⟨q, 0, none⟩)] w fun e w' => e = .returned (.int .i64 (cvT ws ms i k)) ∧ ∃ m, w' = w.drewN m := by
  obtain ⟨a1, c1, rfl, hc1⟩ := h1
  obtain ⟨a2, c2, rfl, hc2⟩ := h2
  obtain ⟨b1, o1, rfl, _, x1⟩ := hc1 i hi
  obtain ⟨b1', o1', e, _, x2⟩ := hc1 k hk
  injection e with e; injection e with e1 e2; subst e1; subst e2
  obtain ⟨b2, o2, rfl, _, y1⟩ := hc2 i hi2
  obtain ⟨b2', o2', e, _, y2⟩ := hc2 k hk2
  injection e with e; injection e with e1 e2; subst e1; subst e2
  unfold encT at y1 y2
  have CI := fun w' => Lib.hid (Tryz.cmp_Compare_int ws[i] ws[k] w')
  have CT := fun w' => Lib.hid (compareT_any ms[i] ms[k] w')
  have E := Lib.hid (show cvT ws ms i k = if Lib.compareInt ws[i] ws[k] ≠ 0 then Lib.compareInt ws[i] ws[k] else cmpT ms[i] ms[k] by
    unfold cvT
    simp only [List.getD_eq_getElem?_getD, List.getElem?_eq_getElem hi, List.getElem?_eq_getElem hk, List.getElem?_eq_getElem hi2, List.getElem?_eq_getElem hk2, Option.getD_some])
  generalize Lib.compareInt ws[i] ws[k] = cc at *
  generalize cmpT ms[i] ms[k] = ct at *
  generalize ws[i] = u1 at *
  generalize ws[k] = u2 at *
  generalize ms[i] = t1 at *
  generalize ms[k] = t2 at *
  obtain ⟨d0, d1, d2, d3, d4⟩ := tab_c hV.tab
  have dv := var_c hV.var
  clear hc1 hc2 d0 d1 d4 hV
  have i1 : (0 : Int) ≤ (i : Int) := by omega
  have i2 : (i : Int) < (ws.length : Int) := by omega
  have i3 : (0 : Int) ≤ (k : Int) := by omega
  have i4 : (k : Int) < (ws.length : Int) := by omega
  have i5 : (i : Int) < (ms.length : Int) := by omega
  have i6 : (k : Int) < (ms.length : Int) := by omega
  by_cases hc : cc = 0
  · have q1 : (cc != 0) = false := by simp [hc]
    have HE := Lib.hid (show cvT ws ms i k = ct by rw [E.out, if_neg (fun h => h hc)])
    clear E hc
    go_enter Tryz.func53, Tryz.ntmps53
    go_wp2
    go_quiet ((go_at_call 54; exact Calls.quiet_of_same (CI _).out))
    go_wp2
    have dv' : (w.drewN nq).cell? ⟨q, 0, none⟩ = _ := dv
    have d3' : (w.drewN nq).cell? ⟨p, 3, none⟩ = _ := d3
    have y1' : (w.drewN nq).cell? ⟨b2, o2 + i, none⟩ = _ := y1
    have y2' : (w.drewN nq).cell? ⟨b2, o2 + k, none⟩ = _ := y2
    have HM := Lib.hid (show ∃ m, w.drewN nq = w.drewN m from ⟨nq, rfl⟩)
    generalize w.drewN nq = w1 at *
    clear dv d3 y1 y2 d2 x1 x2
    go_quiet ((go_at_call 55; exact Calls.quiet_of_same ((CT _).out.mono fun _ _ ⟨h1, h2⟩ => ⟨h1, h2.symm⟩)))
    go_wp2
    go_ret
    obtain ⟨m, hm⟩ := HM.out
    exact ⟨by rw [HE.out]; rfl, m + nq, by rw [hm, World.drewN_drewN]⟩
  · have q1 : (cc != 0) = true := by simp [hc]
    have HE := Lib.hid (show cvT ws ms i k = cc by rw [E.out, if_pos hc])
    clear E hc
    go_enter Tryz.func53, Tryz.ntmps53
    go_wp2
    go_quiet ((go_at_call 54; exact Calls.quiet_of_same (CI _).out))
    go_wp2
    go_ret
    exact ⟨by rw [HE.out]; rfl, _, rfl⟩
end Go.Proofs.YtpkgjokehgihjaaGreat
