/- Lists of numbers and of texts: made. (Written by gen/lists.py.) -/
import Derived.Test.YtegdabdnbglhaaaText
import Derived.Test.YtegdabdnbglhaaaSigned
import Derived.Test.YtegdabdnbglhaaaFrame
import Derived.WalkKit
import Derived.WalkSpells
import Derived.WalkLawsBesides
import Derived.BigQuiet
set_option linter.unusedVariables false
namespace Go.Proofs.Ytegdabdnbglhaaa
open Go.RowKit

/-- A part's bytes and error. -/
def intE (n : Int) : List UInt8 × Int := if n < 0 ∨ 4611686018427387903 < n then ([], 2) else (nb n.toNat, 0)
def textE (l : List UInt8) : List UInt8 × Int := if 1048576 < l.length then ([], 4) else (tb l, 0)
theorem intE_len (n : Int) : (intE n).1.length ≤ 1048586 := by
  unfold intE; split
  · simp
  · have := (nb_length n.toNat).2; simp only; omega
theorem textE_len (l : List UInt8) : (textE l).1.length ≤ 1048586 := by
  unfold textE; split
  · simp
  · have := (nb_length l.length).2; simp only [tb, List.length_append]; omega
/-- The parts' bytes behind others, or the first part's error. -/
def lsE {α : Type} (enc : α → List UInt8 × Int) : List UInt8 → List α → List UInt8 × Int
  | acc, [] => (acc, 0)
  | acc, x :: xs => if (enc x).2 = 0 then lsE enc (acc ++ (enc x).1) xs else ([], (enc x).2)
theorem lsE_at {α : Type} (enc : α → List UInt8 × Int) (acc : List UInt8) (xs : List α) (k : Nat) (h : k < xs.length) :
    lsE enc acc (xs.drop k) = if (enc xs[k]).2 = 0 then lsE enc (acc ++ (enc xs[k]).1) (xs.drop (k + 1)) else ([], (enc xs[k]).2) := by
  rw [List.drop_eq_getElem_cons h]; rfl
def listE {α : Type} (enc : α → List UInt8 × Int) (xs : List α) : List UInt8 × Int := lsE enc (nb xs.length) xs

theorem addInt_any (base : Nat) (n : Int) (v : Value) (l : List UInt8) (w : World) (hl : l.length < 70368740000000) (hb : base ≤ w.heap.size) (hown : Own w base 5 v l) :
    Calls Try.prog 37 #[v, .int .i64 n] w fun e w' => ∃ v', e = .returned (.tuple #[v', .int .i64 (intE n).2]) ∧
      ((intE n).2 = 0 → Own w' base 5 v' (l ++ (intE n).1)) ∧ Below base w w' := by
  by_cases h : n < 0 ∨ 4611686018427387903 < n
  · have e1 : intE n = ([], 2) := by unfold intE; rw [if_pos h]
    rw [e1]
    refine (addNum_no n v w h).mono ?_
    rintro e w' ⟨rfl, rfl⟩
    exact ⟨_, rfl, fun h => absurd h (by decide), Below.refl _ _⟩
  · obtain ⟨m, rfl⟩ := Int.eq_ofNat_of_zero_le (show 0 ≤ n by omega)
    have e1 : intE (m : Int) = (nb m, 0) := by unfold intE; rw [if_neg h]; simp
    rw [e1]
    refine (addNum_any base m v l w (by omega) (by omega) hb hown).mono ?_
    rintro e w' ⟨v', rfl, ho, hbl⟩
    exact ⟨_, rfl, fun _ => ho, hbl⟩

theorem addStr_any (base : Nat) (s : List UInt8) (v : Value) (l : List UInt8) (w : World) (hl : l.length < 70368740000000) (hb : base ≤ w.heap.size) (hown : Own w base 5 v l) :
    Calls Try.prog 39 #[v, .string ⟨s.toArray⟩] w fun e w' => ∃ v', e = .returned (.tuple #[v', .int .i64 (textE s).2]) ∧
      ((textE s).2 = 0 → Own w' base 5 v' (l ++ (textE s).1)) ∧ Below base w w' := by
  by_cases h : 1048576 < s.length
  · have e1 : textE s = ([], 4) := by unfold textE; rw [if_pos h]
    rw [e1]
    refine (addText_no v s w h).mono ?_
    rintro e w' ⟨rfl, rfl⟩
    exact ⟨_, rfl, fun h => absurd h (by decide), Below.refl _ _⟩
  · have e1 : textE s = (tb s, 0) := by unfold textE; rw [if_neg h]
    rw [e1]
    refine (addText_ok base v l s w hl (by omega) hb hown).mono ?_
    rintro e w' ⟨v', rfl, ho, hbl⟩
    exact ⟨_, rfl, fun _ => ho, hbl⟩

theorem refInt_any (n : Int) (w : World) :
    Calls Try.prog 12 #[.int .i64 n] w fun e w' => e = .returned (.tuple #[.string ⟨(intE n).1.toArray⟩, .int .i64 (intE n).2]) ∧ Below w.heap.size w w' := by
  by_cases h : n < 0 ∨ 4611686018427387903 < n
  · have e1 : intE n = ([], 2) := by unfold intE; rw [if_pos h]
    rw [e1]
    refine (refNum_no n w h).mono ?_
    rintro e w' ⟨rfl, rfl⟩
    exact ⟨rfl, Below.refl _ _⟩
  · obtain ⟨m, rfl⟩ := Int.eq_ofNat_of_zero_le (show 0 ≤ n by omega)
    have e1 : intE (m : Int) = (nb m, 0) := by unfold intE; rw [if_neg h]; simp
    rw [e1]
    exact refNum_ok m w (by omega)

theorem refStr_any (s : List UInt8) (w : World) :
    Calls Try.prog 20 #[.string ⟨s.toArray⟩] w fun e w' => e = .returned (.tuple #[.string ⟨(textE s).1.toArray⟩, .int .i64 (textE s).2]) ∧ Below w.heap.size w w' := by
  by_cases h : 1048576 < s.length
  · have e1 : textE s = ([], 4) := by unfold textE; rw [if_pos h]
    rw [e1]
    refine (refText_no s w h).mono ?_
    rintro e w' ⟨rfl, rfl⟩
    exact ⟨rfl, Below.refl _ _⟩
  · have e1 : textE s = (tb s, 0) := by unfold textE; rw [if_neg h]
    rw [e1]
    exact refText_ok s w (by omega)

set_option maxRecDepth 100000 in
set_option maxHeartbeats 800000 in
theorem listInt_any (base : Nat) (v : Value) (xs : List Int) (w : World) (hrow : Row (Value.int .i64) (· < base) w v xs) (hlen : xs.length ≤ 1048576) (hb : base ≤ w.heap.size) :
    Calls Try.prog 42 #[v, .func (.func 37) #[] #[]] w fun e w' => ∃ v', e = .returned (.tuple #[v', .int .i64 (listE intE xs).2]) ∧
      ∃ base', Own w' base' 5 v' (listE intE xs).1 ∧ Below base w w' := by
  rcases hrow.cases with ⟨rfl, a, cap, rfl⟩ | ⟨b, off, cap, rfl, hbb, hc⟩
  · have Hn := Lib.hid (addNum_any base 0 (.slice none 0 0) [] w (by omega) (by decide) hb (Own.nil _ _ _))
    have Hs := Lib.hid (show listE intE ([] : List Int) = (nb 0, 0) from rfl)
    go_enter Try.func42, Try.ntmps42
    go_wp2_with fail
    refine Hn.out.mono ?_
    rintro e w1 ⟨v1, rfl, hown, hbl⟩
    have Ho := Lib.hid hown; clear hown
    go_wp2
    refine wp_loop_rounds 1 ?_
    rw [rounds_succ]
    go_wp2
    go_ret2
    rw [Hs.out]
    exact ⟨_, rfl, base, by simpa using Ho.out, hbl⟩
  · have Hn := Lib.hid (addNum_any base xs.length (.slice none 0 0) [] w (by omega) (by decide) hb (Own.nil _ _ _))
    go_enter Try.func42, Try.ntmps42
    go_wp2_with fail
    refine Hn.out.mono ?_
    rintro e w1 ⟨v1, rfl, hown, hbl1⟩
    have Ho := Lib.hid hown; clear hown
    go_wp2
    go_loopw [6, 7, 21] (fun v6 v7 i wr => ∃ (k : Nat) (acc : List UInt8), k ≤ xs.length ∧ i = .int .i64 k ∧ v7 = .int .i64 0 ∧ Own wr base 5 v6 acc ∧ acc.length ≤ 10 + k * 1048586 ∧
        Below base w wr ∧ listE intE xs = lsE intE acc (xs.drop k))
      (fun _ _ i _ => xs.length - (intOf i).toNat)
    case atStart => exact ⟨0, _, by omega, rfl, rfl, Ho.out, by have := (nb_length xs.length).2; simpa using this, hbl1, rfl⟩
    case round =>
      obtain ⟨k, acc, hk, rfl, rfl, hown, hacc, hbel, heq⟩ := hrel
      have Heq := Lib.hid heq; clear heq
      have Hown := Lib.hid hown; clear hown
      have hbw := Nat.le_trans hb hbel.size
      by_cases hlt : k < xs.length
      · have hcell : wr.cell? ⟨b, off + k, none⟩ = some (.int .i64 xs[k]) := (hbel.cell hbb).trans (hc k hlt)
        have Hadd := Lib.hid (addInt_any base xs[k] u6 acc wr (by omega) hbw Hown.out)
        have Hat := Lib.hid (lsE_at intE acc xs k hlt)
        have Hel := Lib.hid (intE_len xs[k])
        generalize hx : xs[k] = x at hcell Hadd Hat Hel
        clear hx
        go_wp2_with fail
        refine Hadd.out.mono ?_
        rintro e w2 ⟨v2, rfl, hown2, hbel2⟩
        have Hown2 := Lib.hid hown2; clear hown2
        by_cases hz : (intE x).2 = 0
        · have hz1 : ((intE x).2 != 0) = false := by simp [hz]
          have Hz := Lib.hid hz; clear hz
          go_wp2
          go_roundw
          case rel =>
            refine ⟨k + 1, acc ++ (intE x).1, by omega, by go_num, by rw [Hz.out], Hown2.out Hz.out, ?_, hbel.trans hbel2, ?_⟩
            · have := Hel.out; rw [List.length_append]; omega
            · rw [Heq.out, Hat.out, if_pos Hz.out]
          case measure => simp [intOf]; omega
        · have hz1 : ((intE x).2 != 0) = true := by simp [hz]
          have Hz := Lib.hid hz; clear hz
          go_wp2
          go_ret2
          rw [Heq.out, Hat.out, if_neg Hz.out]
          exact ⟨_, rfl, base, Own.nil _ _ _, hbel.trans hbel2⟩
      · have hke : xs.drop k = [] := List.drop_eq_nil_of_le (by omega)
        have Hke := Lib.hid hke; clear hke
        go_wp2
        go_ret2
        rw [Heq.out, Hke.out]
        exact ⟨_, rfl, base, Hown.out, hbel⟩

theorem listInt_no (a : Option Addr) (len cap : Nat) (w : World) (hlen : 1048576 < len) :
    Calls Try.prog 42 #[.slice a len cap, .func (.func 37) #[] #[]] w fun e w' => e = .returned (.tuple #[.slice none 0 0, .int .i64 4]) ∧ w' = w := by
  go_enter Try.func42, Try.ntmps42
  go_wp2
  go_ret2
  exact ⟨rfl, rfl⟩

theorem makeInts_any (v : Value) (xs : List Int) (w : World) (hrow : Row (Value.int .i64) (· < w.heap.size) w v xs) (hlen : xs.length ≤ 1048576) :
    Calls Try.prog 24 #[v] w fun e w' => e = .returned (.tuple #[.string ⟨(listE intE xs).1.toArray⟩, .int .i64 (listE intE xs).2]) ∧ Below w.heap.size w w' := by
  have Hn := Lib.hid (listInt_any w.heap.size v xs w hrow hlen (Nat.le_refl _))
  go_enter Try.func24, Try.ntmps24
  go_wp2_with fail
  refine Hn.out.mono ?_
  rintro e w1 ⟨v1, rfl, base', hown, hb⟩
  go_wp2_with fail
  refine (made_any base' _ _ _ _ hown).mono ?_
  rintro e w2 ⟨rfl, rfl⟩
  go_wp2
  go_ret2
  exact ⟨rfl, hb⟩

set_option maxRecDepth 100000 in
set_option maxHeartbeats 800000 in
theorem listStr_any (base : Nat) (v : Value) (xs : List (List UInt8)) (w : World) (hrow : Row (fun l => Value.string ⟨l.toArray⟩) (· < base) w v xs) (hlen : xs.length ≤ 1048576) (hb : base ≤ w.heap.size) :
    Calls Try.prog 43 #[v, .func (.func 39) #[] #[]] w fun e w' => ∃ v', e = .returned (.tuple #[v', .int .i64 (listE textE xs).2]) ∧
      ∃ base', Own w' base' 5 v' (listE textE xs).1 ∧ Below base w w' := by
  rcases hrow.cases with ⟨rfl, a, cap, rfl⟩ | ⟨b, off, cap, rfl, hbb, hc⟩
  · have Hn := Lib.hid (addNum_any base 0 (.slice none 0 0) [] w (by omega) (by decide) hb (Own.nil _ _ _))
    have Hs := Lib.hid (show listE textE ([] : List (List UInt8)) = (nb 0, 0) from rfl)
    go_enter Try.func43, Try.ntmps43
    go_wp2_with fail
    refine Hn.out.mono ?_
    rintro e w1 ⟨v1, rfl, hown, hbl⟩
    have Ho := Lib.hid hown; clear hown
    go_wp2
    refine wp_loop_rounds 1 ?_
    rw [rounds_succ]
    go_wp2
    go_ret2
    rw [Hs.out]
    exact ⟨_, rfl, base, by simpa using Ho.out, hbl⟩
  · have Hn := Lib.hid (addNum_any base xs.length (.slice none 0 0) [] w (by omega) (by decide) hb (Own.nil _ _ _))
    go_enter Try.func43, Try.ntmps43
    go_wp2_with fail
    refine Hn.out.mono ?_
    rintro e w1 ⟨v1, rfl, hown, hbl1⟩
    have Ho := Lib.hid hown; clear hown
    go_wp2
    go_loopw [6, 7, 21] (fun v6 v7 i wr => ∃ (k : Nat) (acc : List UInt8), k ≤ xs.length ∧ i = .int .i64 k ∧ v7 = .int .i64 0 ∧ Own wr base 5 v6 acc ∧ acc.length ≤ 10 + k * 1048586 ∧
        Below base w wr ∧ listE textE xs = lsE textE acc (xs.drop k))
      (fun _ _ i _ => xs.length - (intOf i).toNat)
    case atStart => exact ⟨0, _, by omega, rfl, rfl, Ho.out, by have := (nb_length xs.length).2; simpa using this, hbl1, rfl⟩
    case round =>
      obtain ⟨k, acc, hk, rfl, rfl, hown, hacc, hbel, heq⟩ := hrel
      have Heq := Lib.hid heq; clear heq
      have Hown := Lib.hid hown; clear hown
      have hbw := Nat.le_trans hb hbel.size
      by_cases hlt : k < xs.length
      · have hcell : wr.cell? ⟨b, off + k, none⟩ = some (.string ⟨xs[k].toArray⟩) := (hbel.cell hbb).trans (hc k hlt)
        have Hadd := Lib.hid (addStr_any base xs[k] u6 acc wr (by omega) hbw Hown.out)
        have Hat := Lib.hid (lsE_at textE acc xs k hlt)
        have Hel := Lib.hid (textE_len xs[k])
        generalize hx : xs[k] = x at hcell Hadd Hat Hel
        clear hx
        go_wp2_with fail
        refine Hadd.out.mono ?_
        rintro e w2 ⟨v2, rfl, hown2, hbel2⟩
        have Hown2 := Lib.hid hown2; clear hown2
        by_cases hz : (textE x).2 = 0
        · have hz1 : ((textE x).2 != 0) = false := by simp [hz]
          have Hz := Lib.hid hz; clear hz
          go_wp2
          go_roundw
          case rel =>
            refine ⟨k + 1, acc ++ (textE x).1, by omega, by go_num, by rw [Hz.out], Hown2.out Hz.out, ?_, hbel.trans hbel2, ?_⟩
            · have := Hel.out; rw [List.length_append]; omega
            · rw [Heq.out, Hat.out, if_pos Hz.out]
          case measure => simp [intOf]; omega
        · have hz1 : ((textE x).2 != 0) = true := by simp [hz]
          have Hz := Lib.hid hz; clear hz
          go_wp2
          go_ret2
          rw [Heq.out, Hat.out, if_neg Hz.out]
          exact ⟨_, rfl, base, Own.nil _ _ _, hbel.trans hbel2⟩
      · have hke : xs.drop k = [] := List.drop_eq_nil_of_le (by omega)
        have Hke := Lib.hid hke; clear hke
        go_wp2
        go_ret2
        rw [Heq.out, Hke.out]
        exact ⟨_, rfl, base, Hown.out, hbel⟩

theorem listStr_no (a : Option Addr) (len cap : Nat) (w : World) (hlen : 1048576 < len) :
    Calls Try.prog 43 #[.slice a len cap, .func (.func 39) #[] #[]] w fun e w' => e = .returned (.tuple #[.slice none 0 0, .int .i64 4]) ∧ w' = w := by
  go_enter Try.func43, Try.ntmps43
  go_wp2
  go_ret2
  exact ⟨rfl, rfl⟩

theorem makeStrs_any (v : Value) (xs : List (List UInt8)) (w : World) (hrow : Row (fun l => Value.string ⟨l.toArray⟩) (· < w.heap.size) w v xs) (hlen : xs.length ≤ 1048576) :
    Calls Try.prog 26 #[v] w fun e w' => e = .returned (.tuple #[.string ⟨(listE textE xs).1.toArray⟩, .int .i64 (listE textE xs).2]) ∧ Below w.heap.size w w' := by
  have Hn := Lib.hid (listStr_any w.heap.size v xs w hrow hlen (Nat.le_refl _))
  go_enter Try.func26, Try.ntmps26
  go_wp2_with fail
  refine Hn.out.mono ?_
  rintro e w1 ⟨v1, rfl, base', hown, hb⟩
  go_wp2_with fail
  refine (made_any base' _ _ _ _ hown).mono ?_
  rintro e w2 ⟨rfl, rfl⟩
  go_wp2
  go_ret2
  exact ⟨rfl, hb⟩

set_option maxRecDepth 100000 in
set_option maxHeartbeats 800000 in
theorem refInts_any (v : Value) (xs : List Int) (w : World) (hrow : Row (Value.int .i64) (· < w.heap.size) w v xs) (hlen : xs.length ≤ 1048576) :
    Calls Try.prog 25 #[v] w fun e w' => e = .returned (.tuple #[.string ⟨(listE intE xs).1.toArray⟩, .int .i64 (listE intE xs).2]) ∧ Below w.heap.size w w' := by
  have Hn := Lib.hid (refBytes_ok xs.length w (by omega))
  rcases hrow.cases with ⟨rfl, a, cap, rfl⟩ | ⟨b, off, cap, rfl, hbb, hc⟩
  · have Hs := Lib.hid (show listE intE ([] : List Int) = (nb 0, 0) from rfl)
    go_enter Try.func25, Try.ntmps25
    go_wp2_with fail
    refine Hn.out.mono ?_
    rintro e w1 ⟨rfl, hbl⟩
    go_wp2
    refine wp_loop_rounds 1 ?_
    rw [rounds_succ]
    go_wp2
    go_ret2
    rw [Hs.out]
    exact ⟨rfl, hbl⟩
  · go_enter Try.func25, Try.ntmps25
    go_wp2_with fail
    refine Hn.out.mono ?_
    rintro e w1 ⟨rfl, hbl1⟩
    go_wp2
    go_loopw [4, 5] (fun v4 i wr => ∃ (k : Nat) (acc : List UInt8), k ≤ xs.length ∧ i = .int .i64 k ∧ v4 = .string ⟨acc.toArray⟩ ∧ acc.length ≤ 10 + k * 1048586 ∧
        Below w.heap.size w wr ∧ listE intE xs = lsE intE acc (xs.drop k))
      (fun _ i _ => xs.length - (intOf i).toNat)
    case atStart => exact ⟨0, nb xs.length, by omega, rfl, rfl, by have := (nb_length xs.length).2; simpa using this, hbl1, rfl⟩
    case round =>
      obtain ⟨k, acc, hk, rfl, rfl, hacc, hbel, heq⟩ := hrel
      have Heq := Lib.hid heq; clear heq
      by_cases hlt : k < xs.length
      · have hcell : wr.cell? ⟨b, off + k, none⟩ = some (.int .i64 xs[k]) := (hbel.cell hbb).trans (hc k hlt)
        have Hadd := Lib.hid (refInt_any xs[k] wr)
        have Hat := Lib.hid (lsE_at intE acc xs k hlt)
        have Hel := Lib.hid (intE_len xs[k])
        generalize hx : xs[k] = x at hcell Hadd Hat Hel
        clear hx
        go_wp2_with fail
        refine Hadd.out.mono ?_
        rintro e w2 ⟨rfl, hbel2⟩
        have hel := Hel.out
        by_cases hz : (intE x).2 = 0
        · have hz1 : ((intE x).2 != 0) = false := by simp [hz]
          have Hz := Lib.hid hz; clear hz
          go_wp2
          go_roundw
          case rel =>
            refine ⟨k + 1, acc ++ (intE x).1, by omega, by go_num, by rw [ByteArray.mk_append_mk], ?_, hbel.trans (hbel2.mono hbel.size), ?_⟩
            · have := Hel.out; rw [List.length_append]; omega
            · rw [Heq.out, Hat.out, if_pos Hz.out]
          case measure => simp [intOf]; omega
        · have hz1 : ((intE x).2 != 0) = true := by simp [hz]
          have Hz := Lib.hid hz; clear hz
          go_wp2
          go_ret2
          rw [Heq.out, Hat.out, if_neg Hz.out]
          exact ⟨rfl, hbel.trans (hbel2.mono hbel.size)⟩
      · have hke : xs.drop k = [] := List.drop_eq_nil_of_le (by omega)
        have Hke := Lib.hid hke; clear hke
        go_wp2
        go_ret2
        rw [Heq.out, Hke.out]
        exact ⟨rfl, hbel⟩

set_option maxRecDepth 100000 in
set_option maxHeartbeats 800000 in
theorem refStrs_any (v : Value) (xs : List (List UInt8)) (w : World) (hrow : Row (fun l => Value.string ⟨l.toArray⟩) (· < w.heap.size) w v xs) (hlen : xs.length ≤ 1048576) :
    Calls Try.prog 27 #[v] w fun e w' => e = .returned (.tuple #[.string ⟨(listE textE xs).1.toArray⟩, .int .i64 (listE textE xs).2]) ∧ Below w.heap.size w w' := by
  have Hn := Lib.hid (refBytes_ok xs.length w (by omega))
  rcases hrow.cases with ⟨rfl, a, cap, rfl⟩ | ⟨b, off, cap, rfl, hbb, hc⟩
  · have Hs := Lib.hid (show listE textE ([] : List (List UInt8)) = (nb 0, 0) from rfl)
    go_enter Try.func27, Try.ntmps27
    go_wp2_with fail
    refine Hn.out.mono ?_
    rintro e w1 ⟨rfl, hbl⟩
    go_wp2
    refine wp_loop_rounds 1 ?_
    rw [rounds_succ]
    go_wp2
    go_ret2
    rw [Hs.out]
    exact ⟨rfl, hbl⟩
  · go_enter Try.func27, Try.ntmps27
    go_wp2_with fail
    refine Hn.out.mono ?_
    rintro e w1 ⟨rfl, hbl1⟩
    go_wp2
    go_loopw [4, 5] (fun v4 i wr => ∃ (k : Nat) (acc : List UInt8), k ≤ xs.length ∧ i = .int .i64 k ∧ v4 = .string ⟨acc.toArray⟩ ∧ acc.length ≤ 10 + k * 1048586 ∧
        Below w.heap.size w wr ∧ listE textE xs = lsE textE acc (xs.drop k))
      (fun _ i _ => xs.length - (intOf i).toNat)
    case atStart => exact ⟨0, nb xs.length, by omega, rfl, rfl, by have := (nb_length xs.length).2; simpa using this, hbl1, rfl⟩
    case round =>
      obtain ⟨k, acc, hk, rfl, rfl, hacc, hbel, heq⟩ := hrel
      have Heq := Lib.hid heq; clear heq
      by_cases hlt : k < xs.length
      · have hcell : wr.cell? ⟨b, off + k, none⟩ = some (.string ⟨xs[k].toArray⟩) := (hbel.cell hbb).trans (hc k hlt)
        have Hadd := Lib.hid (refStr_any xs[k] wr)
        have Hat := Lib.hid (lsE_at textE acc xs k hlt)
        have Hel := Lib.hid (textE_len xs[k])
        generalize hx : xs[k] = x at hcell Hadd Hat Hel
        clear hx
        go_wp2_with fail
        refine Hadd.out.mono ?_
        rintro e w2 ⟨rfl, hbel2⟩
        have hel := Hel.out
        by_cases hz : (textE x).2 = 0
        · have hz1 : ((textE x).2 != 0) = false := by simp [hz]
          have Hz := Lib.hid hz; clear hz
          go_wp2
          go_roundw
          case rel =>
            refine ⟨k + 1, acc ++ (textE x).1, by omega, by go_num, by rw [ByteArray.mk_append_mk], ?_, hbel.trans (hbel2.mono hbel.size), ?_⟩
            · have := Hel.out; rw [List.length_append]; omega
            · rw [Heq.out, Hat.out, if_pos Hz.out]
          case measure => simp [intOf]; omega
        · have hz1 : ((textE x).2 != 0) = true := by simp [hz]
          have Hz := Lib.hid hz; clear hz
          go_wp2
          go_ret2
          rw [Heq.out, Hat.out, if_neg Hz.out]
          exact ⟨rfl, hbel.trans (hbel2.mono hbel.size)⟩
      · have hke : xs.drop k = [] := List.drop_eq_nil_of_le (by omega)
        have Hke := Lib.hid hke; clear hke
        go_wp2
        go_ret2
        rw [Heq.out, Hke.out]
        exact ⟨rfl, hbel⟩

theorem Row.below {α : Type} {enc : α → Value} {w w' : World} {v : Value} {xs : List α} (h : Row enc (· < w.heap.size) w v xs) (hb : Below w.heap.size w w') : Row enc (· < w'.heap.size) w' v xs :=
  (h.kept (Kept.of_below hb) (fun k hk hm => by omega)).mono fun k hk => Nat.lt_of_lt_of_le hk hb.size

set_option maxHeartbeats 800000 in
theorem codeLists_walk (v : Value) (xs : List Int) (u : Value) (ys : List (List UInt8)) (w : World)
    (hv : Row (Value.int .i64) (· < w.heap.size) w v xs) (hx : xs.length * 8 ≤ 140737488351232)
    (hu : Row (fun l => Value.string ⟨l.toArray⟩) (· < w.heap.size) w u ys) (hy : ys.length * 16 ≤ 140737488351232) :
    Calls Try.prog 6 #[v, u] w fun e w' => e = .returned (.bool true) ∧ Below w.heap.size w w' := by
  have Hv := Lib.hid hv
  have Hu := Lib.hid hu
  obtain ⟨a, cap, rfl, _⟩ := hv
  obtain ⟨b, cap2, rfl, _⟩ := hu
  by_cases h1 : 2000 < xs.length
  · go_enter Try.func6, Try.ntmps6
    go_wp2_with fail
    refine (awake_any _).mono ?_
    rintro e w1 ⟨rfl, hb⟩
    go_wp2
    go_ret
    exact ⟨rfl, hb⟩
  · by_cases h2 : 2000 < ys.length
    · go_enter Try.func6, Try.ntmps6
      go_wp2_with fail
      refine (awake_any _).mono ?_
      rintro e w1 ⟨rfl, hb⟩
      go_wp2
      go_ret
      exact ⟨rfl, hb⟩
    · have K1 := Lib.hid (makeInts_any _ xs w Hv.out (by omega))
      have hself1 := str_self (listE intE xs).1
      have hself2 := str_self (listE textE ys).1
      have hs3 := int_self (listE intE xs).2
      have hs4 := int_self (listE textE ys).2
      go_enter Try.func6, Try.ntmps6
      go_wp2_with fail
      refine K1.out.mono ?_
      rintro e w1 ⟨rfl, hb1⟩
      have K2 := Lib.hid (refInts_any _ xs w1 (Hv.out.below hb1) (by omega))
      go_wp2_with fail
      refine K2.out.mono ?_
      rintro e w2 ⟨rfl, hb2⟩
      have hb12 := below2 hb1 hb2
      have K3 := Lib.hid (makeStrs_any _ ys w2 (Hu.out.below hb12) (by omega))
      go_wp2_with fail
      refine K3.out.mono ?_
      rintro e w3 ⟨rfl, hb3⟩
      have hb13 := below2 hb12 hb3
      have K4 := Lib.hid (refStrs_any _ ys w3 (Hu.out.below hb13) (by omega))
      go_wp2_with fail
      refine K4.out.mono ?_
      rintro e w4 ⟨rfl, hb4⟩
      have hb14 := below2 hb13 hb4
      go_wp2_with fail
      refine (awake_any _).mono ?_
      rintro e w5 ⟨rfl, hb5⟩
      go_wp2
      go_ret
      exact ⟨rfl, below2 hb14 hb5⟩
end Go.Proofs.Ytegdabdnbglhaaa
