/- The walk of add, by what first does. -/
import Derived.Test.YtjgoceebjmnjcaaDoorSumsW
import Derived.BigQuiet
import Derived.Deep.QuietTactic
import Derived.Deep.RegionHeld3
import Derived.WalkKit
import Derived.WalkSpells
import Derived.Lib.Hide
import Derived.WalkLawsBesides
import Derived.Outline
import Derived.IntWalk
set_option linter.unusedVariables false
namespace Go.Proofs.YtjgoceebjmnjcaaDoor
open Go.RowKit

/-- The kept sums stand, wherever their list lies now. -/
def SumsUp (w : World) (base S : Nat) (l : List UInt8) (zv : Value) (w0 : World) (kb0 : Nat) : Prop :=
  ∃ kb cap K, SumsAt w base S l kb cap zv K ∧ (kb = kb0 ∨ w0.heap.size ≤ kb) ∧ Kept (SK S kb0) w0 w ∧ Tab w ∧ BTab w
theorem BTab.kept {w w' : World} {M : Nat → Prop} {base : Nat} (h : BTab w) (hk : Kept M w w') (hM : ∀ k, M k → base ≤ k) (hb : 1 < base) : BTab w' := by
  have hn : ¬ M 1 := fun m => by have := hM _ m; omega
  refine ⟨Nat.lt_of_lt_of_le h.1 hk.size, fun i hi => ?_⟩
  rw [World.cell?_of_block (w := w) (hk.block _ h.1 hn)]
  exact h.2 i hi
theorem SumsUp.cell {w : World} {base S : Nat} {l : List UInt8} {zv : Value} {w0 : World} {kb0 : Nat} (h : SumsUp w base S l zv w0 kb0) : w.cell? ⟨S, 2, none⟩ = some zv := by
  obtain ⟨kb, cap, K, hs, _⟩ := h
  rw [cell_of_row _ _ _ _ _ _ hs.heap]; rfl
theorem SumsUp.z {w : World} {base S : Nat} {l : List UInt8} {zv : Value} {w0 : World} {kb0 : Nat} (h : SumsUp w base S l zv w0 kb0) : ZRow w base zv 17 := by
  obtain ⟨kb, cap, K, hs, _⟩ := h
  exact hs.z
theorem SumsUp.bt {w : World} {base S : Nat} {l : List UInt8} {zv : Value} {w0 : World} {kb0 : Nat} (h : SumsUp w base S l zv w0 kb0) : BTab w := by
  obtain ⟨kb, cap, K, hs, _, _, _, h⟩ := h
  exact h
theorem SumsUp.start {w : World} {base S kb cap : Nat} {l : List UInt8} {zv : Value} {K : List Nat} (h : SumsAt w base S l kb cap zv K) (ht : Tab w) (hT : BTab w) : SumsUp w base S l zv w kb :=
  ⟨kb, cap, K, h, .inl rfl, Kept.refl _ _, ht, hT⟩
theorem SumsUp.drewN {w : World} {base S : Nat} {l : List UInt8} {zv : Value} {w0 : World} {kb0 : Nat} (h : SumsUp w base S l zv w0 kb0) (n : Nat) : SumsUp (w.drewN n) base S l zv w0 kb0 := by
  obtain ⟨kb, cap, K, hs, h1, h2, h3, h4⟩ := h
  exact ⟨kb, cap, K, hs.drewN n, h1, h2.drewN n, h3, h4⟩
theorem SumsUp.drew {w : World} {base S : Nat} {l : List UInt8} {zv : Value} {w0 : World} {kb0 : Nat} (h : SumsUp w base S l zv w0 kb0) : SumsUp w.drew base S l zv w0 kb0 := h.drewN 1
/-- first, from wherever the kept sums stand. -/
theorem first_up (F : FirstSpec) {base S n kb0 : Nat} {l : List UInt8} {zv : Value} {w w0 : World} (hl : l.length ≤ 1000000) (hn : n ≤ l.length) (hb : 1 < base) (hb0 : base ≤ w0.heap.size) (hkb : base ≤ kb0) (h : SumsUp w base S l zv w0 kb0) :
    Calls Tryd.prog 46 #[.pointer (some ⟨S, 0, none⟩), .int .i64 n] w fun e w' => e = .returned (.int .i64 (sumS (l.take n) : Nat)) ∧ SumsUp w' base S l zv w0 kb0 := by
  obtain ⟨kb, cap, K, hs, h1, h2, h3, h4⟩ := h
  refine (F base S n kb cap l zv K w hl hn hs (by omega) (Nat.le_trans hb0 h2.size) h3).mono ?_
  rintro e w' ⟨kb', cap', K', rfl, hs', hk', hkept⟩
  have hM : ∀ k, SK S kb k → base ≤ k := by
    rintro k (rfl | rfl)
    · exact hs.at'
    · exact hs.kb_at.1
  refine ⟨rfl, kb', cap', K', hs', ?_, kept_new h2 (hkept.mono fun k _ e => ?_), h3.kept hkept hM (by omega), h4.kept hkept hM hb⟩
  · rcases hk' with rfl | hk'
    · exact h1
    · right; have := h2.size; omega
  · rcases e with rfl | rfl
    · exact .inl (.inl rfl)
    · rcases h1 with rfl | h1
      · exact .inl (.inr rfl)
      · exact .inr h1

/-- What a sum becomes by a piece of the text, told by the kept sums. -/
theorem add_math (l : List UInt8) (s a b : Nat) (hab : a ≤ b) (hb : b ≤ l.length) : sumS (l.take b) ^^^ stpN (8 * (b - a)) (sumS (l.take a) ^^^ s) = addS s ((l.take b).drop a) := by
  have h1 := addS_lin s (sumS (l.take a) ^^^ s) ((l.take b).drop a)
  have e1 : s ^^^ (sumS (l.take a) ^^^ s) = sumS (l.take a) := by rw [Nat.xor_comm (sumS _), xor_twice]
  have e2 : ((l.take b).drop a).length = b - a := by simp; omega
  rw [e1, e2, sum_piece l a b hab] at h1
  rw [h1, Nat.xor_assoc, Nat.xor_self, Nat.xor_zero]

set_option maxRecDepth 100000 in
set_option maxHeartbeats 2000000 in
theorem sadd_any (F : FirstSpec) (base S s a b kb0 : Nat) (l : List UInt8) (zv : Value) (w w0 : World) (hl : l.length ≤ 1000000) (hab : a ≤ b) (hbl : b ≤ l.length) (hba : b - a ≤ 65536) (hs : s < 4294967296)
    (hb : 1 < base) (hb0 : base ≤ w0.heap.size) (hkb : base ≤ kb0) (h : SumsUp w base S l zv w0 kb0) :
    Calls Tryd.prog 36 #[.pointer (some ⟨S, 0, none⟩), .int .i64 s, .int .i64 a, .int .i64 b] w fun e w' => e = .returned (.int .i64 (addS s ((l.take b).drop a) : Nat)) ∧ SumsUp w' base S l zv w0 kb0 := by
  have HM := Lib.hid (add_math l s a b hab hbl)
  have FA := fun w' h => Lib.hid (first_up F (S := S) (zv := zv) (n := a) (w := w') hl (by omega) hb hb0 hkb h)
  have FB := fun w' h => Lib.hid (first_up F (S := S) (zv := zv) (n := b) (w := w') hl hbl hb hb0 hkb h)
  have c2 := h.cell
  have hsa := sumS_lt (l.take a)
  have hsb := sumS_lt (l.take b)
  have e1 := i64_xor_nat (sumS (l.take a)) s (by omega) (by omega)
  have hx := Nat.xor_lt_two_pow (n := 32) (x := sumS (l.take a)) (y := s) (by omega) (by omega)
  have hst := stpN_lt (8 * (b - a)) (sumS (l.take a) ^^^ s) (by omega)
  have e2 := i64_xor_nat (sumS (l.take b)) (stpN (8 * (b - a)) (sumS (l.take a) ^^^ s)) (by omega) (by omega)
  rw [HM.out] at e2
  have p17 : (2 : Nat) ^ 17 = 131072 := by decide
  have h17 : b - a < 2 ^ 17 := by omega
  clear p17
  have M := fun w' hz hT => Lib.hid (move_any ((sumS (l.take a) ^^^ s : Nat) : Int) (sumS (l.take a) ^^^ s) (b - a) 17 base zv w' (by omega) (by omega) h17 (by omega) (by omega) hz hT)
  have W1 : IntKind.i64.wrap ((b : Int) - (a : Int)) = ((b - a : Nat) : Int) := by rw [IntWalk.i64_in _ (by omega)]; omega
  have H := Lib.hid h; clear h
  generalize sumS (l.take a) ^^^ s = x at *
  generalize sumS (l.take a) = sa at *
  generalize sumS (l.take b) = sb at *
  generalize stpN (8 * (b - a)) x = y at *
  generalize b - a = n at *
  generalize addS s ((l.take b).drop a) = r at *
  clear h17
  go_enter Tryd.func36, Tryd.ntmps36
  go_wp2
  go_region_held3 (fun w' => w'.cell? ⟨S, 2, none⟩ = some zv ∧ Hid (SumsUp w' base S l zv w0 kb0))
    (first
      | (go_split_ands; refine ⟨?_, ?_⟩ <;> first | assumption | exact cell_drew (by assumption) | exact Lib.hid (SumsUp.drew (Hid.out (by assumption))) | exact SumsUp.cell (by assumption) | exact Lib.hid (by assumption) | exact Lib.hid (SumsUp.drewN (Hid.out (by assumption)) _)))
    (first
      | (go_at_call_of 46 (Value.int .i64 b); go_split_ands; refine (FB _ (Hid.out (by assumption))).out.mono ?_; rintro e w' ⟨rfl, hup⟩)
      | (go_at_call_of 46 (Value.int .i64 a); go_split_ands; refine (FA _ (Hid.out (by assumption))).out.mono ?_; rintro e w' ⟨rfl, hup⟩)
      | (go_at_call 30; go_split_ands; refine (M _ (SumsUp.z (Hid.out (by assumption))) (SumsUp.bt (Hid.out (by assumption)))).out.mono ?_; rintro e w' ⟨m, rfl, rfl⟩))
  go_wp2
  go_ret
  exact ⟨rfl, SumsUp.drewN hup _⟩
end Go.Proofs.YtjgoceebjmnjcaaDoor
