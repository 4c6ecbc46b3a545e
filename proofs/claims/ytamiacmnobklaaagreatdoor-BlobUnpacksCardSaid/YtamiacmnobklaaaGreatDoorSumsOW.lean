/- The walk of Scan's closure, and of one by it. -/
import Derived.Test.YtamiacmnobklaaaGreatDoorCrX
import Derived.Test.YtamiacmnobklaaaGreatDoorSmX
import Derived.Test.YtamiacmnobklaaaGreatDoorFrame
import Derived.Test.YtamiacmnobklaaaGreatDoorFrmShelf
import Derived.Test.YtamiacmnobklaaaGreatDoorGen
import Derived.Test.YtamiacmnobklaaaGreatDoorOne2W
import Derived.Test.YtamiacmnobklaaaGreatDoorOwnL
import Derived.Test.YtamiacmnobklaaaGreatDoorRows
import Derived.BigQuiet
import Derived.Deep.AppendLies
import Derived.Deep.QuietTactic
import Derived.IntWalk
import Derived.Laws.BitsAllLaws
import Derived.Laws.Rows
import Derived.Laws.Tables
import Derived.Lib.Hide
import Derived.Lib.TrailingZeros
import Derived.Outline
import Derived.WalkKit
import Derived.WalkLawsBesides
import Derived.WalkSpells
set_option linter.unusedVariables false
namespace Go.Proofs.YtamiacmnobklaaaGreatDoor
open Go.RowKit

theorem SumsUp.old {w : World} {base S : Nat} {l : List UInt8} {zv : Value} {w0 : World} {kb0 : Nat} (h : SumsUp w base S l zv w0 kb0) {p : Addr} {v : Value} (hc : w0.cell? p = some v) (h1 : p.block ≠ S) (h2 : p.block ≠ kb0) : w.cell? p = some v := by
  obtain ⟨kb, cap, K, hs, _, hk, _⟩ := h
  rw [World.cell?_of_block (w := w0) (hk.block _ (World.block_lt_of_cell? w0 p hc) (fun e => e.elim h1 h2))]
  exact hc
theorem SumsAt.below {w w' : World} {base S : Nat} {l : List UInt8} {kb cap : Nat} {zv : Value} {K : List Nat} (h : SumsAt w base S l kb cap zv K) (hb : Below w.heap.size w w') : SumsAt w' base S l kb cap zv K := by
  refine ⟨(hb.block S (Array.getElem?_eq_some_iff.1 h.heap).1).trans h.heap, ?_, h.z.kept fun g _ hg => hb.block g hg, h.good, h.at'⟩
  refine ⟨h.own.1, ?_⟩
  rcases h.own.2 with hn | ⟨g, cap, cur, hv, hg, hgg, rest⟩
  · exact .inl hn
  · exact .inr ⟨g, cap, cur, hv, hg, (hb.block g (Array.getElem?_eq_some_iff.1 hgg).1).trans hgg, rest⟩
theorem SumsUp.below {w w' : World} {base S : Nat} {l : List UInt8} {zv : Value} {w0 : World} {kb0 : Nat} (h : SumsUp w base S l zv w0 kb0) (hb : Below w.heap.size w w') : SumsUp w' base S l zv w0 kb0 := by
  obtain ⟨kb, cap, K, hs, h1, hk, h3, h4⟩ := h
  exact ⟨kb, cap, K, hs.below hb, h1, hk.trans ⟨hb.os, hb.tape, hb.output, hb.size, fun k hk _ => hb.block k hk⟩, h3.below hb, h4.below hb⟩
theorem drop_piece (l : List UInt8) (at' a b : Nat) : (l.take (at' + b)).drop (at' + a) = ((l.drop at').take b).drop a := by
  rw [List.take_drop, List.drop_drop]

set_option maxHeartbeats 1000000 in
theorem scanAdd_any (F : FirstSpec) (base S s a b at' kb0 : Nat) (l : List UInt8) (zv : Value) (w w0 : World) (p q : Addr) (B : Int) (hB : B = b) (hl : l.length ≤ 1000000) (hab : a ≤ b) (hbl : at' + b ≤ l.length) (hba : b - a ≤ 65536) (hs : s < 4294967296)
    (hb : 1 < base) (hb0 : base ≤ w0.heap.size) (hkb : base ≤ kb0) (h : SumsUp w base S l zv w0 kb0)
    (hp : w0.cell? p = some (.pointer (some ⟨S, 0, none⟩))) (hq : w0.cell? q = some (.int .i64 at')) (hp1 : p.block ≠ S) (hp2 : p.block ≠ kb0) (hq1 : q.block ≠ S) (hq2 : q.block ≠ kb0) :
    Calls Tryz.prog 81 #[.int .i64 s, .int .i64 a, .int .i64 B, .pointer (some p), .pointer (some q)] w fun e w' => e = .returned (.int .i64 (addS s (((l.drop at').take b).drop a) : Nat)) ∧ SumsUp w' base S l zv w0 kb0 := by
  subst hB
  have C := Lib.hid (sadd_any F base S s (at' + a) (at' + b) kb0 l zv w w0 hl (by omega) hbl (by omega) hs hb hb0 hkb h)
  rw [drop_piece] at C
  have c1 := h.old hp hp1 hp2
  have c2 := h.old hq hq1 hq2
  have W1 : IntKind.i64.wrap ((at' : Int) + (a : Int)) = ((at' + a : Nat) : Int) := by rw [IntWalk.i64_in _ (by omega)]; omega
  have W2 : IntKind.i64.wrap ((at' : Int) + (b : Int)) = ((at' + b : Nat) : Int) := by rw [IntWalk.i64_in _ (by omega)]; omega
  generalize addS s (((l.drop at').take b).drop a) = r at *
  generalize at' + a = x at *
  generalize at' + b = y at *
  clear h hp hq
  go_enter Tryz.func81, Tryz.ntmps81
  go_wp2_with fail
  refine C.out.mono ?_
  rintro e w1 ⟨rfl, hup⟩
  go_wp2
  go_ret
  exact ⟨rfl, hup⟩

set_option maxRecDepth 100000 in
set_option maxHeartbeats 2000000 in
theorem scanOne_any (F : FirstSpec) (base S at' kb0 : Nat) (l m : List UInt8) (zv : Value) (w w0 : World) (p q : Addr) (hm : m = l.drop at') (hl : l.length ≤ 1000000) (hat : at' ≤ l.length)
    (hb : 1 < base) (hb0 : base ≤ w0.heap.size) (hkb : base ≤ kb0) (h : SumsUp w base S l zv w0 kb0)
    (hp : w0.cell? p = some (.pointer (some ⟨S, 0, none⟩))) (hq : w0.cell? q = some (.int .i64 at')) (hp1 : p.block ≠ S) (hp2 : p.block ≠ kb0) (hq1 : q.block ≠ S) (hq2 : q.block ≠ kb0) :
    Calls Tryz.prog 83 #[.string ⟨m.toArray⟩, .func (.func 81) #[] #[.pointer (some p), .pointer (some q)]] w fun e w' =>
      e = .returned (.tuple #[.string ⟨(oneS m).1.toArray⟩, .int .i64 (oneS m).2.1, .int .i64 (oneS m).2.2]) ∧ SumsUp w' base S l zv w0 kb0 := by
  have hml : m.length = l.length - at' := by rw [hm, List.length_drop]
  have L := Lib.hid (show (⟨m.toArray⟩ : ByteArray).size = m.length from rfl)
  have P := Lib.hid (pay_any m w (by omega))
  by_cases h0 : (payS m).2 = 0
  · obtain ⟨h1, h2, h3⟩ := payS_ok m h0
    obtain ⟨a, b, c, d, e4⟩ := take610 m (by omega)
    have E1 := slice_toArray m 2 6
    have E2 := slice_toArray m 6 10
    have E3 := slice_toArray m 10 (10 + (payS m).1)
    have hs := sumS_lt ((m.take 6).drop 2)
    have S1 := fun w ht => Lib.hid (sum_any ((m.take 6).drop 2) w (by simp; omega) ht)
    have A1 := fun w h => Lib.hid (scanAdd_any F base S (sumS ((m.take 6).drop 2)) 10 (10 + (payS m).1) at' kb0 l zv w w0 p q (10 + ((payS m).1 : Int)) (by omega) hl (by omega) (by omega) (by omega) hs hb hb0 hkb h hp hq hp1 hp2 hq1 hq2)
    have N1 := fun w => Lib.hid (number_any a b c d w)
    rw [← hm, ← sumS_append] at A1
    rw [e4] at E2
    have O := Lib.hid (show oneS m = if sumS ((m.take 6).drop 2 ++ (m.take (10 + (payS m).1)).drop 10) ≠ numL [a, b, c, d] then ([], 0, 6) else ((m.take (10 + (payS m).1)).drop 10, 10 + (payS m).1, 0) by
      unfold oneS; rw [if_neg (by omega), e4])
    rw [h0] at P
    clear h3 e4 h0 hm
    have B1 : (6 : Int) ≤ (m.length : Int) := by omega
    have B2 : (10 : Int) ≤ (m.length : Int) := by omega
    have hml2 : m.length ≤ 1000000 := by omega
    clear hml
    have T := fun w' => fun (h : SumsUp w' base S l zv w0 kb0) => (let ⟨_, _, _, _, _, _, h3, _⟩ := h; h3 : Tab w')
    have HT := Lib.hid T; clear T
    generalize (payS m).1 = n at *
    generalize sumS ((m.take 6).drop 2 ++ (m.take (10 + n)).drop 10) = s2 at *
    generalize (m.take (10 + n)).drop 10 = body at *
    generalize sumS ((m.take 6).drop 2) = s1 at *
    generalize (m.take 6).drop 2 = hd at *
    generalize numL [a, b, c, d] = r at *
    have H := Lib.hid h; clear h hp hq
    by_cases hq : s2 = r
    · have O2 := O.out
      rw [if_neg (by simpa using hq)] at O2
      rw [O2]
      clear O O2
      have hne : ((s2 : Int) != (r : Int)) = false := by simp [hq]
      clear hq
      go_enter Tryz.func83, Tryz.ntmps83
      go_wp2_with fail
      refine P.out.mono ?_
      rintro e w1 ⟨rfl, hb1⟩
      have H1 := Lib.hid (H.out.below hb1)
      clear H hb1
      go_wp2
      go_region_held3 (fun w' => Hid (SumsUp w' base S l zv w0 kb0))
        (first | assumption | exact Lib.hid (SumsUp.drew (Hid.out (by assumption))) | exact Lib.hid (by assumption) | exact Lib.hid (SumsUp.drewN (Hid.out (by assumption)) _))
        (first
          | (go_at_call 114; refine (S1 _ (HT.out _ (Hid.out (by assumption)))).out.mono ?_; rintro e w' ⟨rfl, rfl⟩)
          | (go_at_call 81; refine (A1 _ (Hid.out (by assumption))).out.mono ?_; rintro e w' ⟨rfl, hup⟩)
          | (go_at_call 119; refine (N1 _).out.mono ?_; rintro e w' ⟨k, rfl, rfl⟩))
      go_wp2
      go_ret3
      exact ⟨ret3 E3 (by omega) rfl, Hid.out (by assumption)⟩
    · have O2 := O.out
      rw [if_pos (by simpa using hq)] at O2
      rw [O2]
      clear O O2
      have hne : ((s2 : Int) != (r : Int)) = true := by simp; omega
      clear hq
      go_enter Tryz.func83, Tryz.ntmps83
      go_wp2_with fail
      refine P.out.mono ?_
      rintro e w1 ⟨rfl, hb1⟩
      have H1 := Lib.hid (H.out.below hb1)
      clear H hb1
      go_wp2
      go_region_held3 (fun w' => Hid (SumsUp w' base S l zv w0 kb0))
        (first | assumption | exact Lib.hid (SumsUp.drew (Hid.out (by assumption))) | exact Lib.hid (by assumption) | exact Lib.hid (SumsUp.drewN (Hid.out (by assumption)) _))
        (first
          | (go_at_call 114; refine (S1 _ (HT.out _ (Hid.out (by assumption)))).out.mono ?_; rintro e w' ⟨rfl, rfl⟩)
          | (go_at_call 81; refine (A1 _ (Hid.out (by assumption))).out.mono ?_; rintro e w' ⟨rfl, hup⟩)
          | (go_at_call 119; refine (N1 _).out.mono ?_; rintro e w' ⟨k, rfl, rfl⟩))
      go_wp2
      go_ret3
      exact ⟨ret3 rfl rfl rfl, Hid.out (by assumption)⟩
  · have O := Lib.hid (show oneS m = ([], 0, (payS m).2) by unfold oneS; rw [if_pos h0])
    have hz := payS_bad m h0
    rw [hz] at P
    rw [O.out]
    clear hz O hm
    have hne : (((payS m).2 : Int) != 0) = true := by simp; omega
    clear h0 hp hq
    generalize (payS m).2 = q at *
    have H := Lib.hid h; clear h
    go_enter Tryz.func83, Tryz.ntmps83
    go_wp2_with fail
    refine P.out.mono ?_
    rintro e w1 ⟨rfl, hb1⟩
    go_wp2
    go_ret3
    exact ⟨ret3 rfl rfl rfl, H.out.below hb1⟩
end Go.Proofs.YtamiacmnobklaaaGreatDoor
