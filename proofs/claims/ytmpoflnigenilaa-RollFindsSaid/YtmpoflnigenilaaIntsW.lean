/- Walks of the law's ints, of All and the document's All. -/
import Derived.Test.YtmpoflnigenilaaEndsW
import Derived.Test.YtmpoflnigenilaaFrame
import Derived.Test.YtmpoflnigenilaaOwnL
set_option linter.unusedVariables false
namespace Go.Proofs.Ytmpoflnigenilaa
open Go.RowKit

abbrev encN : Nat → Value := fun n => Value.int .i64 n
theorem info_i64 : (Try.prog.info? 3).map (fun i => (i.zero, i.size, i.bytes)) = some (some (.int .i64 0), 1, 8) := by kernel_rfl

set_option maxRecDepth 100000 in
set_option maxHeartbeats 1000000 in
theorem ints_same (xs : List Nat) (v1 v2 : Value) (N1 N2 : Nat → Prop) (w : World) (h1 : Row encN N1 w v1 xs) (h2 : Row encN N2 w v2 xs) (hl : xs.length ≤ 1000000) :
    Calls Try.prog 22 #[v1, v2] w fun e w' => e = .returned (.bool true) ∧ Below w.heap.size w w' := by
  obtain ⟨a1, cap1, rfl, hc1⟩ := h1
  obtain ⟨a2, cap2, rfl, hc2⟩ := h2
  have H1 := Lib.hid hc1; clear hc1
  have H2 := Lib.hid hc2; clear hc2
  have q0 : ((xs.length : Int) != (xs.length : Int)) = false := by simp
  go_enter Try.func22, Try.ntmps22
  go_wp2
  go_loopw [5] (fun i wr => ∃ k : Nat, k ≤ xs.length ∧ i = .int .i64 k ∧ Below w.heap.size w wr) (fun i _ => xs.length - (intOf i).toNat)
  case atStart => exact ⟨0, by omega, rfl, Below.refl _ _⟩
  case round =>
    obtain ⟨k, hk, rfl, hbel⟩ := hrel
    have Hbel := Lib.hid hbel; clear hbel
    by_cases hlt : k < xs.length
    · obtain ⟨b1, o1, rfl, _, c1⟩ := H1.out k hlt
      obtain ⟨b2, o2, rfl, _, c2⟩ := H2.out k hlt
      have c1' : wr.cell? ⟨b1, o1 + k, none⟩ = some (.int .i64 (xs[k] : Nat)) := (Hbel.out.cell (p := ⟨b1, o1 + k, none⟩) (World.block_lt_of_cell? w _ c1)).trans c1
      have c2' : wr.cell? ⟨b2, o2 + k, none⟩ = some (.int .i64 (xs[k] : Nat)) := (Hbel.out.cell (p := ⟨b2, o2 + k, none⟩) (World.block_lt_of_cell? w _ c2)).trans c2
      generalize xs[k] = x at *
      have q1 : ((x : Int) != (x : Int)) = false := by simp
      have i0 : (0 : Int) ≤ (k : Int) := by omega
      have i1 : (k : Int) < (xs.length : Int) := by omega
      clear c1 c2
      go_wp2
      go_quiet (fail)
      go_wp2
      go_roundw
      case rel => exact ⟨k + 1, by omega, by go_num, Below_drewN Hbel.out _⟩
      case measure => simp [intOf]; omega
    · have i1 : ¬ (k : Int) < (xs.length : Int) := by omega
      go_wp2
      go_ret
      exact ⟨rfl, Hbel.out⟩

/-! ### The sums of all windows -/
def sumsK (l : List UInt8) (n k : Nat) : List Nat := (List.range k).map fun j => wk (win l n j)
theorem sumsK_next (l : List UInt8) (n k : Nat) : sumsK l n (k + 1) = sumsK l n k ++ [wk (win l n k)] := by unfold sumsK; rw [List.range_succ, List.map_append]; rfl
theorem sumsK_length (l : List UInt8) (n k : Nat) : (sumsK l n k).length = k := by simp [sumsK]
theorem sumsK_all (l : List UInt8) (n : Nat) : sumsK l n (l.length + 1 - n) = allS l n := rfl

def lenOf : Value → Nat
  | .slice _ n _ => n
  | _ => 0
theorem OwnL.lenOf {α : Type} {enc : α → Value} {w : World} {base : Nat} {e : TypeId} {v : Value} {xs : List α} (h : OwnL enc w base e v xs) : lenOf v = xs.length := by
  obtain ⟨a, cap, rfl, _⟩ := h.row
  rfl

set_option maxRecDepth 100000 in
set_option maxHeartbeats 1000000 in
theorem refAll_any (l : List UInt8) (n : Nat) (z : Int) (w : World) (hz : z = (n : Int)) (hn : 1 ≤ n) (hn2 : n ≤ 1024) (hl : l.length ≤ 10000) :
    Calls Try.prog 23 #[.string ⟨l.toArray⟩, .int .i64 z] w fun e w' => ∃ v, e = .returned v ∧ OwnL encN w' w.heap.size 3 v (allS l n) ∧ Below w.heap.size w w' := by
  have L := Lib.hid (show (⟨l.toArray⟩ : ByteArray).size = l.length from rfl)
  have HZ := Lib.hid hz; clear hz
  go_enter Try.func23, Try.ntmps23
  go_wp2
  go_loopw [5, 6] (fun v i wr => ∃ k : Nat, k ≤ l.length + 1 - n ∧ i = .int .i64 k ∧ OwnL encN wr w.heap.size 3 v (sumsK l n k) ∧ Below w.heap.size w wr) (fun _ i _ => l.length + 1 - (intOf i).toNat)
  case atStart => exact ⟨0, by omega, rfl, OwnL.nil _ _ _ _, Below.refl _ _⟩
  case round =>
    obtain ⟨k, hk, rfl, hown, hbel⟩ := hrel
    have Hown := Lib.hid hown; clear hown
    have Hbel := Lib.hid hbel; clear hbel
    obtain ⟨e9, he9⟩ : ∃ e9, k + n = e9 := ⟨_, rfl⟩
    have W9 : IntKind.i64.wrap ((k : Int) + z) = (e9 : Int) := by rw [HZ.out, IntKind.wrap_i64]; omega
    by_cases hlt : e9 ≤ l.length
    · have g1 : (e9 : Int) ≤ (l.length : Int) := by omega
      have i0 : (0 : Int) ≤ (k : Int) := by omega
      have i1 : (k : Int) ≤ (e9 : Int) := by omega
      have E : (⟨l.toArray⟩ : ByteArray).extract k e9 = ⟨(win l n k).toArray⟩ := by rw [slice_toArray, ← he9]; rfl
      have RS := fun w' => Lib.hid (refSum_any (win l n k) w' (by rw [win_length _ _ _ (by omega)]; omega))
      have LEN := sumsK_length l n k
      have NX := Lib.hid (sumsK_next l n k)
      generalize wk (win l n k) = sum at *
      have hwb := Hbel.out.size
      obtain ⟨wo, rfl⟩ : ∃ wo : World, wo = wr := ⟨_, rfl⟩
      go_wp2_with fail
      refine (RS _).out.mono ?_
      rintro e w' ⟨rfl, rfl⟩
      go_wp2_with (at_builtin; refine append_elem (enc := encN) (y := sum) rfl _ _ 31 3 (.int .i64 0) 8 (by rfl) Try.underlying31 info_i64 rfl w.heap.size _ _ rfl (by rfl) Hown.out (by rfl) (by omega) (by unfold maxLen; omega) (by omega) ?_; intro v' w3 hown3 hb3 hk3)
      have Hown3 := Lib.hid hown3; clear hown3
      go_wp2
      go_roundw
      case rel => exact ⟨k + 1, by omega, by go_num, by rw [NX.out]; exact Hown3.out, Hbel.out.trans hb3⟩
      case measure => simp [intOf]; omega
    · have g1 : ¬ (e9 : Int) ≤ (l.length : Int) := by omega
      have hk2 : k = l.length + 1 - n := by omega
      have HA := Lib.hid (show sumsK l n k = allS l n by rw [hk2]; rfl)
      clear hk2
      go_wp2
      go_ret
      exact ⟨_, rfl, by rw [← HA.out]; exact Hown.out, Hbel.out⟩

set_option maxRecDepth 100000 in
theorem all_arg (l : List UInt8) (z : Int) (w : World) (h : z < 1 ∨ z > 1024) :
    Calls Try.prog 21 #[.string ⟨l.toArray⟩, .int .i64 z] w fun e w' => e = .returned (.tuple #[.slice none 0 0, .int .i64 1]) ∧ w = w' := by
  have I := fun w' => Lib.hid (isSize_no z w' h)
  clear h
  go_enter Try.func21, Try.ntmps21
  go_wp2_with fail
  refine (I _).out.mono ?_
  rintro e w' ⟨rfl, rfl⟩
  go_wp2
  go_ret2
  exact ⟨rfl, rfl⟩
set_option maxRecDepth 100000 in
set_option maxHeartbeats 1000000 in
theorem all_short (l : List UInt8) (n : Nat) (z : Int) (w : World) (hz : z = (n : Int)) (hn : 1 ≤ n) (hn2 : n ≤ 1024) (h : l.length < n) :
    Calls Try.prog 21 #[.string ⟨l.toArray⟩, .int .i64 z] w fun e w' => e = .returned (.tuple #[.slice none 0 0, .int .i64 0]) ∧ w = w' := by
  have I := fun w' => Lib.hid (isSize_yes z w' (by omega) (by omega))
  have O := fun w' => Lib.hid (over_short l n w' h)
  rw [← hz] at O
  clear hz h
  go_enter Try.func21, Try.ntmps21
  go_wp2_with fail
  refine (I _).out.mono ?_
  rintro e w' ⟨rfl, rfl⟩
  go_wp2_with fail
  refine (O _).out.mono ?_
  rintro e w' ⟨rfl, rfl⟩
  go_wp2
  refine wp_loop_rounds 1 ?_
  rw [rounds_succ]
  go_wp2
  go_ret2
  exact ⟨rfl, rfl⟩
set_option maxRecDepth 100000 in
set_option maxHeartbeats 1000000 in
theorem all_ok (l : List UInt8) (n : Nat) (z : Int) (w : World) (hz : z = (n : Int)) (hn : 1 ≤ n) (hn2 : n ≤ 1024) (h : n ≤ l.length) (hl : l.length ≤ 10000) :
    Calls Try.prog 21 #[.string ⟨l.toArray⟩, .int .i64 z] w fun e w' => ∃ v, e = .returned (.tuple #[v, .int .i64 0]) ∧ OwnL encN w' w.heap.size 3 v (allS l n) ∧ Below w.heap.size w w' := by
  have I := fun w' => Lib.hid (isSize_yes z w' (by omega) (by omega))
  have O := fun w' => Lib.hid (over_ok l n w' h (by omega))
  rw [← hz] at O
  clear hz
  go_enter Try.func21, Try.ntmps21
  go_wp2_with fail
  refine (I _).out.mono ?_
  rintro e w' ⟨rfl, rfl⟩
  go_wp2_with fail
  refine (O _).out.mono ?_
  rintro e w1 ⟨p, rfl, hr, hp, b1⟩
  have H1 := Lib.hid (On.mk hr b1)
  have hpB : p < w1.heap.size := RollAt.lt hr
  obtain ⟨B, hB⟩ : ∃ B, w1.heap.size = B := ⟨_, rfl⟩
  rw [hB] at hpB
  have hwB : w.heap.size ≤ B := by rw [← hB]; exact b1.size
  clear I O hr b1
  go_wp2
  go_loopw [6, 8] (fun v ok wr => ∃ (k : Nat) (b : Bool), ok = .bool b ∧ B ≤ wr.heap.size ∧ OwnL encN wr B 3 v (sumsK l n k) ∧ Below w.heap.size w wr ∧ ((b = true ∧ k + n ≤ l.length ∧ RollOn wr p l n k) ∨ (b = false ∧ k = l.length + 1 - n)))
    (fun v _ _ => l.length + 1 - lenOf v)
  case atStart => exact ⟨0, true, rfl, by omega, OwnL.nil _ _ _ _, H1.out.below, .inl ⟨rfl, by omega, H1.out.roll⟩⟩
  case round =>
    obtain ⟨k, b, rfl, hBr, hown, hbel, hcase⟩ := hrel
    have Hown := Lib.hid hown; clear hown
    have Hbel := Lib.hid hbel; clear hbel
    rcases hcase with ⟨rfl, hk, hr⟩ | ⟨rfl, hk⟩
    · have Hr := Lib.hid hr; clear hr
      have SM := Lib.hid (sumR_any p n k _ _ l wr Hr.out hn (lo_lt (win l n k)) (hi_lt (win l n k)))
      rw [show lo (win l n k) + 65536 * hi (win l n k) = wk (win l n k) from rfl] at SM
      have LEN := sumsK_length l n k
      have NXT := Lib.hid (sumsK_next l n k)
      generalize wk (win l n k) = sum at *
      have LV := Lib.hid Hown.out.lenOf
      go_wp2_with fail
      refine SM.out.mono ?_
      rintro e w2 ⟨rfl, b2⟩
      have Hown2 := Lib.hid (Hown.out.kept (Kept.new b2 (fun _ => False)) (fun _ _ h => h))
      have Hr2 := Lib.hid (Hr.out.kept (M := fun _ => False) (Kept.new b2 _) (fun h => h))
      have B2 := Lib.hid (Hbel.out.trans (b2.mono Hbel.out.size))
      have hB2 : B ≤ w2.heap.size := Nat.le_trans hBr b2.size
      clear Hown Hr Hbel b2 SM
      go_wp2_with (at_builtin; refine append_elem (enc := encN) (y := sum) rfl _ _ 31 3 (.int .i64 0) 8 (by rfl) Try.underlying31 info_i64 rfl B _ _ rfl (by rfl) Hown2.out (by rfl) (by omega) (by unfold maxLen; omega) (by omega) ?_; intro v' w3 hown3 hb3 hk3)
      have Hown3 := Lib.hid hown3; clear hown3
      have Hr3 := Lib.hid (Hr2.out.kept (Kept.of_below hb3) (by omega))
      have B3 := Lib.hid (B2.out.trans (hb3.mono hwB))
      have hB3 : B ≤ w3.heap.size := Nat.le_trans hB2 (hk3.size)
      clear Hown2 Hr2 B2 hb3 hk3
      by_cases hlt : k + n < l.length
      · have NX := Lib.hid (next_step p n k l w3 Hr3.out hn hn2 hlt (by omega))
        go_wp2_with fail
        refine NX.out.mono ?_
        rintro e w4 ⟨rfl, hr4, k4⟩
        have Hown4 := Lib.hid (Hown3.out.kept k4 (fun j hj e => by omega))
        go_wp2
        go_roundw
        case rel => exact ⟨k + 1, true, rfl, Nat.le_trans hB3 k4.size, by rw [NXT.out]; exact Hown4.out, B3.out.trans (k4.below B3.out.size (fun j hj => by omega)), .inl ⟨rfl, by omega, hr4⟩⟩
        case measure =>
          show l.length + 1 - lenOf _ < l.length + 1 - lenOf _
          rw [LV.out, Hown3.out.lenOf, List.length_append, LEN]
          simp only [List.length_cons, List.length_nil]
          omega
      · have NX := Lib.hid (next_end p n k l w3 Hr3.out hn (by omega) (by omega))
        go_wp2_with fail
        refine NX.out.mono ?_
        rintro e w4 ⟨rfl, m, rfl⟩
        go_wp2
        go_roundw
        case rel => exact ⟨k + 1, false, rfl, hB3, by rw [NXT.out]; exact Hown3.out, Below_drewN B3.out m, .inr ⟨rfl, by omega⟩⟩
        case measure =>
          show l.length + 1 - lenOf _ < l.length + 1 - lenOf _
          rw [LV.out, Hown3.out.lenOf, List.length_append, LEN]
          simp only [List.length_cons, List.length_nil]
          omega
    · have HA := Lib.hid (show sumsK l n k = allS l n by rw [hk]; rfl)
      clear hk
      go_wp2
      go_ret2
      exact ⟨_, rfl, by rw [← HA.out]; exact Hown.out.mono hwB, Hbel.out⟩
end Go.Proofs.Ytmpoflnigenilaa
