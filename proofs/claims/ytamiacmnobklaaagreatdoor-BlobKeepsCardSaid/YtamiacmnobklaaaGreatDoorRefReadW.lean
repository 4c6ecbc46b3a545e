/- Walks of the document's reader: Byte, Num, Count, Raw, End, over the same plain state. -/
import Derived.Test.YtamiacmnobklaaaGreatDoorFrame
import Derived.Test.YtamiacmnobklaaaGreatDoorGen
import Derived.Test.YtamiacmnobklaaaGreatDoorOwnL
import Derived.Test.YtamiacmnobklaaaGreatDoorCdX
import Derived.Test.YtamiacmnobklaaaGreatDoorRows
import Derived.BigQuiet
import Derived.Deep.CutBlock
import Derived.Deep.DeepCutAuto
import Derived.Deep.QuietTactic
import Derived.WalkKit
import Derived.WalkLawsBesides
import Derived.WalkSpells
set_option linter.unusedVariables false
namespace Go.Proofs.YtamiacmnobklaaaGreatDoor
open Go.RowKit

abbrev rdC (S : List UInt8) (a e : Int) : Obj := .cells #[.string ⟨S.toArray⟩, .int .i64 a, .int .i64 e] 134 (0, 0)
/-- The document's reader in block q, of the bytes S; s: what is left, the first error. -/
def RefRd (w : World) (q : Nat) (S : List UInt8) (s : RS) : Prop := ∃ a : Nat, w.heap[q]? = some (rdC S a s.e) ∧ a ≤ S.length ∧ (s.e = 0 → s.l = S.drop a) ∧ s.ok
def RDoes (w : World) (q : Nat) (S : List UInt8) (v : Value) (s : RS) (e : Ending) (w' : World) : Prop := e = .returned v ∧ RefRd w' q S s ∧ Kept (· = q) w w'
theorem rd_c {w : World} {q : Nat} {S : List UInt8} {a e : Int} (h : w.heap[q]? = some (rdC S a e)) : w.cell? ⟨q, 0, none⟩ = some (.string ⟨S.toArray⟩) ∧ w.cell? ⟨q, 1, none⟩ = some (.int .i64 a) ∧ w.cell? ⟨q, 2, none⟩ = some (.int .i64 e) ∧ w.frozen? ⟨q, 1, none⟩ = false ∧ w.frozen? ⟨q, 2, none⟩ = false := by
  refine ⟨?_, ?_, ?_, frozen_of_row w q 1 _ _ h, frozen_of_row w q 2 _ _ h⟩ <;> (rw [cell_of_row _ _ _ _ _ _ h]; rfl)
theorem rd_set1 {w : World} {q : Nat} {S : List UInt8} {a e : Int} (h : w.heap[q]? = some (rdC S a e)) (b : Int) : (w.setCell ⟨q, 1, none⟩ (.int .i64 b)).heap[q]? = some (rdC S b e) := by
  rw [heap_setCell_same w q 1 _ _ _ h]; rfl
theorem rd_set2 {w : World} {q : Nat} {S : List UInt8} {a e : Int} (h : w.heap[q]? = some (rdC S a e)) (b : Int) : (w.setCell ⟨q, 2, none⟩ (.int .i64 b)).heap[q]? = some (rdC S a b) := by
  rw [heap_setCell_same w q 2 _ _ _ h]; rfl
theorem RefRd.kept {w w' : World} {q : Nat} {S : List UInt8} {s : RS} {M : Nat → Prop} (h : RefRd w q S s) (hk : Kept M w w') (hM : ¬ M q) : RefRd w' q S s := by
  obtain ⟨a, h1, h2⟩ := h
  exact ⟨a, hk.old h1 hM, h2⟩
theorem RefRd.lt {w : World} {q : Nat} {S : List UInt8} {s : RS} (h : RefRd w q S s) : q < w.heap.size := by
  obtain ⟨a, h1, _⟩ := h
  exact (Array.getElem?_eq_some_iff.1 h1).1

set_option maxRecDepth 100000 in
set_option maxHeartbeats 1000000 in
theorem refByte_any (w : World) (q : Nat) (S : List UInt8) (s : RS) (h : RefRd w q S s) (hS : S.length ≤ 1000000) :
    Calls Tryz.prog 121 #[ptr q] w (RDoes w q S (.int .i64 (rByte s).1) (rByte s).2) := by
  obtain ⟨a, hh, ha, hl, hok⟩ := h
  obtain ⟨c0, c1, c2, f1, f2⟩ := rd_c hh
  have HH := Lib.hid hh; clear hh
  have L := Lib.hid (show (⟨S.toArray⟩ : ByteArray).size = S.length from rfl)
  obtain ⟨sl, se⟩ := s
  by_cases he : se = 0
  · subst he
    have hl' : sl = S.drop a := hl rfl
    clear hl hok
    have q0 : ((0 : Int) != 0) = false := by simp
    by_cases hlt : a < S.length
    · have E : rByte ⟨sl, 0⟩ = ((S[a].toNat : Int), ⟨S.drop (a + 1), 0⟩) := by
        rw [hl', List.drop_eq_getElem_cons hlt]; rfl
      have HE := Lib.hid E
      clear E hl'
      have HC := S[a].toNat_lt
      have i0 : (0 : Int) ≤ (a : Int) := by omega
      have i1 : (a : Int) < (S.length : Int) := by omega
      have i2 : ¬ (S.length : Int) ≤ (a : Int) := by omega
      have W1 : IntKind.i64.wrap ((a : Int) + 1) = (a : Int) + 1 := IntWalk.i64_in _ (by omega)
      have W2 : IntKind.i64.wrap ((a : Int) + 1 - 1) = (a : Int) := by rw [IntWalk.i64_in _ (by omega)]; omega
      have W3 : (a : Int) + 1 - 1 = (a : Int) := by omega
      go_enter Tryz.func121, Tryz.ntmps121
      go_wp2
      go_quiet (fail)
      have H1 : Hid ((w.drewN nq).heap[q]? = some (rdC S a 0)) := Lib.hid HH.out
      have K1 := Lib.hid (show Kept (· = q) w (w.drewN nq) from Kept.of_drewN w nq)
      generalize w.drewN nq = w1 at *
      clear c0 c1 c2 f1 f2
      obtain ⟨c0, c1, c2, f1, f2⟩ := rd_c H1.out
      have H2 := Lib.hid (rd_set1 H1.out ((a : Int) + 1))
      have K2 := Lib.hid (K1.out.trans ((Kept.refl (· = q) w1).setCell (p := ⟨q, 1, none⟩) (by rfl) (.int .i64 ((a : Int) + 1))))
      go_upto_region 7 with fail
      generalize w1.setCell ⟨q, 1, none⟩ (.int .i64 ((a : Int) + 1)) = w2 at *
      clear c0 c1 c2 f1 f2
      obtain ⟨c0, c1, c2, f1, f2⟩ := rd_c H2.out
      go_quiet (fail)
      go_wp2
      go_ret
      rw [HE.out]
      refine ⟨?_, ⟨a + 1, H2.out, by omega, fun _ => rfl, .inl rfl⟩, K2.out.drewN nq⟩
      show Ending.returned (.int .i64 (wrap64 (S[a].toNat : Int))) = .returned (.int .i64 (S[a].toNat : Int))
      rw [wrap64_u8]
    · have E : rByte ⟨sl, 0⟩ = (0, ⟨[], 3⟩) := by
        rw [hl', List.drop_of_length_le (by omega)]; rfl
      have HE := Lib.hid E
      clear E hl'
      have i2 : (S.length : Int) ≤ (a : Int) := by omega
      go_enter Tryz.func121, Tryz.ntmps121
      go_wp2
      go_quiet (fail)
      have H1 : Hid ((w.drewN nq).heap[q]? = some (rdC S a 0)) := Lib.hid HH.out
      have K1 := Lib.hid (show Kept (· = q) w (w.drewN nq) from Kept.of_drewN w nq)
      generalize w.drewN nq = w1 at *
      clear c0 c1 c2 f1 f2
      obtain ⟨c0, c1, c2, f1, f2⟩ := rd_c H1.out
      have H2 := Lib.hid (rd_set2 H1.out 3)
      have K2 := Lib.hid (K1.out.trans ((Kept.refl (· = q) w1).setCell (p := ⟨q, 2, none⟩) (by rfl) (.int .i64 3)))
      go_wp2
      go_ret
      rw [HE.out]
      exact ⟨rfl, ⟨a, H2.out, ha, fun h => absurd h (by decide), .inr rfl⟩, K2.out⟩
  · have hl0 : sl = [] := by rcases hok with h | h; exact absurd h he; exact h
    subst hl0
    have E : rByte ⟨[], se⟩ = (0, ⟨[], se⟩) := by
      show ((0 : Int), rFail ⟨[], se⟩ 3) = _
      unfold rFail; rw [if_neg he]
    have q0 : (se != 0) = true := by simp [he]
    have HE := Lib.hid E
    have HHE := Lib.hid he
    clear E he hl
    go_enter Tryz.func121, Tryz.ntmps121
    go_wp2
    go_ret
    rw [HE.out]
    exact ⟨rfl, ⟨a, HH.out, ha, fun h => absurd h HHE.out, .inr rfl⟩, Kept.refl _ _⟩

set_option maxRecDepth 100000 in
set_option maxHeartbeats 1000000 in
theorem refEnd_any (w : World) (q : Nat) (S : List UInt8) (s : RS) (h : RefRd w q S s) (hS : S.length ≤ 1000000) :
    Calls Tryz.prog 91 #[ptr q] w (RDoes w q S (.int .i64 (rEnd s).e) (rEnd s)) := by
  obtain ⟨a, hh, ha, hl, hok⟩ := h
  obtain ⟨c0, c1, c2, f1, f2⟩ := rd_c hh
  have HH := Lib.hid hh; clear hh
  have L := Lib.hid (show (⟨S.toArray⟩ : ByteArray).size = S.length from rfl)
  obtain ⟨sl, se⟩ := s
  by_cases he : se = 0
  · subst he
    have hl' : sl = S.drop a := hl rfl
    clear hl hok
    have q0 : ((0 : Int) == 0) = true := by simp
    by_cases hlt : a < S.length
    · have E : rEnd ⟨sl, 0⟩ = ⟨[], 4⟩ := by
        have h0 : sl ≠ [] := by rw [hl']; intro h; have := congrArg List.length h; rw [List.length_drop] at this; simp at this; omega
        unfold rEnd rFail; simp [h0]
      have HE := Lib.hid E
      clear E hl'
      have i1 : (a : Int) < (S.length : Int) := by omega
      go_enter Tryz.func91, Tryz.ntmps91
      go_wp2
      go_quiet (fail)
      have H1 : Hid ((w.drewN nq).heap[q]? = some (rdC S a 0)) := Lib.hid HH.out
      have K1 := Lib.hid (show Kept (· = q) w (w.drewN nq) from Kept.of_drewN w nq)
      generalize w.drewN nq = w1 at *
      clear c0 c1 c2 f1 f2
      obtain ⟨c0, c1, c2, f1, f2⟩ := rd_c H1.out
      have H2 := Lib.hid (rd_set2 H1.out 4)
      have d2 := (rd_c H2.out).2.2.1
      have K2 := Lib.hid (K1.out.trans ((Kept.refl (· = q) w1).setCell (p := ⟨q, 2, none⟩) (by rfl) (.int .i64 4)))
      go_wp2
      go_ret
      rw [HE.out]
      exact ⟨rfl, ⟨a, H2.out, ha, fun h => absurd h (by decide), .inr rfl⟩, K2.out⟩
    · have E : rEnd ⟨sl, 0⟩ = ⟨sl, 0⟩ := by
        have h0 : sl = [] := by rw [hl', List.drop_of_length_le (by omega)]
        unfold rEnd; simp [h0]
      have HE := Lib.hid E
      have HL := Lib.hid hl'
      clear E hl'
      have i1 : decide (a < S.length) = false := decide_eq_false hlt
      have i2 : decide ((a : Int) < (S.length : Int)) = false := decide_eq_false (by omega)
      go_enter Tryz.func91, Tryz.ntmps91
      go_wp2
      go_quiet (fail)
      have H1 : Hid ((w.drewN nq).heap[q]? = some (rdC S a 0)) := Lib.hid HH.out
      have K1 := Lib.hid (show Kept (· = q) w (w.drewN nq) from Kept.of_drewN w nq)
      generalize w.drewN nq = w1 at *
      clear c0 c1 c2 f1 f2
      obtain ⟨c0, c1, c2, f1, f2⟩ := rd_c H1.out
      go_wp2
      go_ret
      rw [HE.out]
      exact ⟨rfl, ⟨a, H1.out, ha, fun _ => HL.out, .inl rfl⟩, K1.out⟩
  · have hl0 : sl = [] := by rcases hok with h | h; exact absurd h he; exact h
    subst hl0
    have E : rEnd ⟨[], se⟩ = ⟨[], se⟩ := by unfold rEnd; simp
    have q0 : (se == 0) = false := by simp [he]
    have HE := Lib.hid E
    have HHE := Lib.hid he
    clear E he hl
    go_enter Tryz.func91, Tryz.ntmps91
    go_wp2
    go_quiet (fail)
    have H1 : Hid ((w.drewN nq).heap[q]? = some (rdC S a se)) := Lib.hid HH.out
    have K1 := Lib.hid (show Kept (· = q) w (w.drewN nq) from Kept.of_drewN w nq)
    generalize w.drewN nq = w1 at *
    clear c0 c1 c2 f1 f2
    obtain ⟨c0, c1, c2, f1, f2⟩ := rd_c H1.out
    go_wp2
    go_ret
    rw [HE.out]
    exact ⟨rfl, ⟨a, H1.out, ha, fun h => absurd h HHE.out, .inr rfl⟩, K1.out⟩

theorem slice_drop (S : List UInt8) (a m : Nat) (h : a + m ≤ S.length) : (⟨S.toArray⟩ : ByteArray).extract a (a + m) = ⟨((S.drop a).take m).toArray⟩ := by
  rw [slice_toArray, List.drop_take, Nat.add_sub_cancel_left]
set_option maxRecDepth 100000 in
set_option maxHeartbeats 1000000 in
theorem refRaw_any (w : World) (q : Nat) (S : List UInt8) (s : RS) (m : Nat) (n : Int) (hn : n = (m : Int)) (hm : m ≤ 4000000) (h : RefRd w q S s) (hS : S.length ≤ 1000000) :
    Calls Tryz.prog 89 #[ptr q, .int .i64 n] w (RDoes w q S (.string ⟨(rRaw s n).1.toArray⟩) (rRaw s n).2) := by
  obtain ⟨a, hh, ha, hl, hok⟩ := h
  obtain ⟨c0, c1, c2, f1, f2⟩ := rd_c hh
  have HH := Lib.hid hh; clear hh
  have L := Lib.hid (show (⟨S.toArray⟩ : ByteArray).size = S.length from rfl)
  have n0 : ¬ n < 0 := by omega
  have n1 : n ≤ 4000000 := by omega
  obtain ⟨sl, se⟩ := s
  by_cases he : se = 0
  · subst he
    have hl' : sl = S.drop a := hl rfl
    clear hl hok
    have q0 : ((0 : Int) != 0) = false := by simp
    have W0 : IntKind.i64.wrap ((S.length : Int) - (a : Int)) = (S.length : Int) - (a : Int) := IntWalk.i64_in _ (by omega)
    by_cases hlt : S.length < a + m
    · have E : rRaw ⟨sl, 0⟩ n = ([], ⟨[], 3⟩) := rRaw_long _ _ n0 (by rw [hl', List.length_drop]; omega)
      have HE := Lib.hid E
      clear E hl'
      have i1 : (S.length : Int) - (a : Int) < n := by omega
      clear hn
      go_enter Tryz.func89, Tryz.ntmps89
      go_wp2
      go_quiet (fail)
      have H1 : Hid ((w.drewN nq).heap[q]? = some (rdC S a 0)) := Lib.hid HH.out
      have K1 := Lib.hid (show Kept (· = q) w (w.drewN nq) from Kept.of_drewN w nq)
      generalize w.drewN nq = w1 at *
      clear c0 c1 c2 f1 f2
      obtain ⟨c0, c1, c2, f1, f2⟩ := rd_c H1.out
      have H2 := Lib.hid (rd_set2 H1.out 3)
      have K2 := Lib.hid (K1.out.trans ((Kept.refl (· = q) w1).setCell (p := ⟨q, 2, none⟩) (by rfl) (.int .i64 3)))
      go_wp2
      go_ret
      rw [HE.out]
      exact ⟨rfl, ⟨a, H2.out, ha, fun h => absurd h (by decide), .inr rfl⟩, K2.out⟩
    · have E : rRaw ⟨sl, 0⟩ n = ((S.drop a).take m, ⟨S.drop (a + m), 0⟩) := by
        rw [hn, rRaw_all _ _ rfl (by rw [hl', List.length_drop]; omega), hl', List.drop_drop]
      have HE := Lib.hid E
      clear E hl'
      have i1 : ¬ (S.length : Int) - (a : Int) < n := by omega
      obtain ⟨am, ham⟩ : ∃ am, am = a + m := ⟨_, rfl⟩
      have W1 : IntKind.i64.wrap ((a : Int) + n) = (am : Int) := by rw [IntWalk.i64_in _ (by omega)]; omega
      have W2 : IntKind.i64.wrap ((am : Int) - n) = (a : Int) := by rw [IntWalk.i64_in _ (by omega)]; omega
      have i2 : (0 : Int) ≤ (a : Int) := by omega
      have i3 : (a : Int) ≤ (am : Int) := by omega
      have i4 : (am : Int) ≤ (S.length : Int) := by omega
      have EX := slice_drop S a m (by omega)
      rw [← ham] at EX HE
      generalize (S.drop a).take m = t at *
      have HAM := Lib.hid (show am ≤ S.length by omega)
      clear ham hn
      go_enter Tryz.func89, Tryz.ntmps89
      go_wp2
      go_quiet (fail)
      have H1 : Hid ((w.drewN nq).heap[q]? = some (rdC S a 0)) := Lib.hid HH.out
      have K1 := Lib.hid (show Kept (· = q) w (w.drewN nq) from Kept.of_drewN w nq)
      generalize w.drewN nq = w1 at *
      clear c0 c1 c2 f1 f2
      obtain ⟨c0, c1, c2, f1, f2⟩ := rd_c H1.out
      have H2 := Lib.hid (rd_set1 H1.out (am : Int))
      have K2 := Lib.hid (K1.out.trans ((Kept.refl (· = q) w1).setCell (p := ⟨q, 1, none⟩) (by rfl) (.int .i64 (am : Int))))
      go_upto_region 10 with fail
      generalize w1.setCell ⟨q, 1, none⟩ (.int .i64 (am : Int)) = w2 at *
      clear c0 c1 c2 f1 f2
      obtain ⟨c0, c1, c2, f1, f2⟩ := rd_c H2.out
      go_quiet (fail)
      go_wp2
      go_ret
      rw [HE.out]
      exact ⟨rfl, ⟨am, H2.out, HAM.out, fun _ => rfl, .inl rfl⟩, K2.out.drewN nq⟩
  · have hl0 : sl = [] := by rcases hok with h | h; exact absurd h he; exact h
    subst hl0
    have E := rRaw_err ⟨[], se⟩ n he
    have q0 : (se != 0) = true := by simp [he]
    have HE := Lib.hid E
    have HHE := Lib.hid he
    clear E he hl hn
    go_enter Tryz.func89, Tryz.ntmps89
    go_wp2
    go_ret
    rw [HE.out]
    exact ⟨rfl, ⟨a, HH.out, ha, fun h => absurd h HHE.out, .inr rfl⟩, Kept.refl _ _⟩
end Go.Proofs.YtamiacmnobklaaaGreatDoor
