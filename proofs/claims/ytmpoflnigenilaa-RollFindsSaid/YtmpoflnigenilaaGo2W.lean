/- Walks of a window's Next at the end, Skip, and of how windows are made. -/
import Derived.Test.YtmpoflnigenilaaGoW
set_option linter.unusedVariables false
namespace Go.Proofs.Ytmpoflnigenilaa
open Go.RowKit

theorem Kept.new {w w' : World} (h : Below w.heap.size w w') (M : Nat → Prop) : Kept M w w' := ⟨h.os, h.tape, h.output, h.size, fun k hk _ => h.block k hk⟩
set_option maxRecDepth 100000 in
theorem next_end (p n k : Nat) (l : List UInt8) (w : World) (h : RollOn w p l n k) (hn : 0 < n) (hlt : k + n = l.length) (hl : l.length ≤ 140737488351232) :
    Calls Try.prog 17 #[rollP p] w fun e w' => e = .returned (.bool false) ∧ ∃ m, w' = w.drewN m := by
  have R := Lib.hid (ready_any p n k _ _ l w h hn)
  have LE := Lib.hid (left_any p n k _ _ 0 l w h (by omega) hl)
  clear h hlt
  go_enter Try.func17, Try.ntmps17
  go_wp2_with fail
  refine R.out.mono ?_
  rintro e w' ⟨rfl, rfl⟩
  go_wp2_with fail
  refine LE.out.mono ?_
  rintro e w' ⟨m, rfl, rfl⟩
  go_wp2
  go_ret
  exact ⟨rfl, _, rfl⟩

set_option maxRecDepth 100000 in
theorem skip_neg (p n k : Nat) (z : Int) (l : List UInt8) (w : World) (h : RollOn w p l n k) (hn : 0 < n) (hz : z < 0) :
    Calls Try.prog 18 #[rollP p, .int .i64 z] w fun e w' => e = .returned (.bool false) ∧ w = w' := by
  have R := Lib.hid (ready_any p n k _ _ l w h hn)
  clear h
  go_enter Try.func18, Try.ntmps18
  go_wp2_with fail
  refine R.out.mono ?_
  rintro e w' ⟨rfl, rfl⟩
  go_wp2
  go_ret
  exact ⟨rfl, rfl⟩
set_option maxRecDepth 100000 in
theorem skip_far (p n k : Nat) (z : Int) (l : List UInt8) (w : World) (h : RollOn w p l n k) (hn : 0 < n) (hk : k + n ≤ l.length) (hz : (l.length : Int) < k + n + z) (hl : l.length ≤ 140737488351232) :
    Calls Try.prog 18 #[rollP p, .int .i64 z] w fun e w' => e = .returned (.bool false) ∧ ∃ m, w' = w.drewN m := by
  have R := Lib.hid (ready_any p n k _ _ l w h hn)
  obtain ⟨d, hd⟩ : ∃ d, l.length = k + n + d := ⟨l.length - (k + n), by omega⟩
  have LE := Lib.hid (left_any p n k _ _ d l w h hd hl)
  have hz0 : ¬ z < 0 := by omega
  have hz1 : z > (d : Int) := by omega
  clear h hd hz hk
  go_enter Try.func18, Try.ntmps18
  go_wp2_with fail
  refine R.out.mono ?_
  rintro e w' ⟨rfl, rfl⟩
  go_wp2_with fail
  refine LE.out.mono ?_
  rintro e w' ⟨m, rfl, rfl⟩
  go_wp2
  go_ret
  exact ⟨rfl, _, rfl⟩
set_option maxRecDepth 100000 in
set_option maxHeartbeats 1000000 in
theorem skip_ok (p n k d : Nat) (z : Int) (l : List UInt8) (w : World) (h : RollOn w p l n k) (hn : 0 < n) (hz : z = (d : Int)) (hd : k + n + d ≤ l.length) (hl : l.length ≤ 140737488351232) :
    Calls Try.prog 18 #[rollP p, .int .i64 z] w fun e w' => e = .returned (.bool true) ∧ RollOn w' p l n (k + d) ∧ Kept (· = p) w w' := by
  have h0 : RollAt w p l n k (lo (win l n k)) (hi (win l n k)) := h
  clear h
  have R := Lib.hid (ready_any p n k _ _ l w h0 hn)
  obtain ⟨q, hq⟩ : ∃ q, l.length = k + n + q := ⟨l.length - (k + n), by omega⟩
  have LE := Lib.hid (left_any p n k _ _ q l w h0 hq hl)
  generalize lo (win l n k) = a at *
  generalize hi (win l n k) = b at *
  obtain ⟨j, hj⟩ : ∃ j, k + d = j := ⟨_, rfl⟩
  rw [hj]
  have wj : IntKind.i64.wrap ((k : Int) + z) = (j : Int) := by rw [IntKind.wrap_i64]; omega
  have hz0 : ¬ z < 0 := by omega
  have hz1 : ¬ z > (q : Int) := by omega
  have hjl : j + n ≤ l.length := by omega
  have IN := fun w' h' => Lib.hid (in_any p n j a b l w' h' hjl hl)
  have OF := fun w' => Lib.hid (of_any (win l n j) w' (by rw [win_length _ _ _ hjl]; omega))
  have H : Hid (RollAt w p l n k a b) := Lib.hid h0
  clear h0 hz hd hq hj
  go_enter Try.func18, Try.ntmps18
  go_wp2_with fail
  refine R.out.mono ?_
  rintro e w' ⟨rfl, rfl⟩
  go_wp2_with fail
  refine LE.out.mono ?_
  rintro e w' ⟨m, rfl, rfl⟩
  have H1 : RollAt (w.drewN m) p l n k a b := H.out
  have K1 : Kept (· = p) w (w.drewN m) := Kept.of_drewN w m
  generalize w.drewN m = w1 at *
  have c2 := H1.c2
  have f2 := H1.fr 2
  have H2 := Lib.hid (show RollAt (w1.setCell ⟨p, 2, none⟩ (.int .i64 (j : Int))) p l n j a b from heap_setCell_same w1 p 2 _ _ (.int .i64 (j : Int)) H1)
  have K2 := Lib.hid (K1.setCell (p := ⟨p, 2, none⟩) rfl (.int .i64 (j : Int)))
  clear R LE H H1 K1
  go_wp2_with fail
  generalize w1.setCell ⟨p, 2, none⟩ (.int .i64 (j : Int)) = w2 at *
  refine (IN _ H2.out).out.mono ?_
  rintro e w' ⟨m2, rfl, rfl⟩
  have H3 : Hid (RollAt (w2.drewN m2) p l n j a b) := Lib.hid H2.out
  have K3 : Hid (Kept (· = p) w (w2.drewN m2)) := Lib.hid (K2.out.trans (Kept.of_drewN w2 m2))
  generalize w2.drewN m2 = w3 at *
  clear H2 K2 IN c2 f2
  go_wp2_with fail
  refine (OF _).out.mono ?_
  rintro e w4 ⟨rfl, b4⟩
  have H4 : RollAt w4 p l n j a b := H3.out.kept (M := fun _ => False) (Kept.new b4 _) (fun h => h)
  have K4 : Kept (· = p) w w4 := K3.out.trans (Kept.new b4 _)
  have c3 := H4.c3
  have f3 := H4.fr 3
  have h5 := heap_setCell_same w4 p 3 _ _ (.int .u16 (lo (win l n j) : Nat)) H4
  have h5' : RollAt (w4.setCell ⟨p, 3, none⟩ (.int .u16 (lo (win l n j) : Nat))) p l n j (lo (win l n j)) b := h5
  have c4 := h5'.c4
  have f4 := h5'.fr 4
  have h6 := Lib.hid (heap_setCell_same _ p 4 _ _ (.int .u16 (hi (win l n j) : Nat)) h5')
  have K6 := Lib.hid ((K4.setCell (p := ⟨p, 3, none⟩) rfl (.int .u16 (lo (win l n j) : Nat))).setCell (p := ⟨p, 4, none⟩) rfl (.int .u16 (hi (win l n j) : Nat)))
  clear h5 h5' H4 K4 OF b4 H3 K3
  go_wp2
  go_ret
  exact ⟨rfl, h6.out, K6.out⟩

/-! ### How windows are made -/
set_option maxRecDepth 100000 in
theorem isSize_yes (n : Int) (w : World) (h1 : 1 ≤ n) (h2 : n ≤ 1024) : Calls Try.prog 31 #[.int .i64 n] w fun e w' => e = .returned (.bool true) ∧ w = w' := by
  go_enter Try.func31, Try.ntmps31
  go_wp2
  go_ret
  exact ⟨rfl, rfl⟩
set_option maxRecDepth 100000 in
theorem isSize_no (n : Int) (w : World) (h : n < 1 ∨ n > 1024) : Calls Try.prog 31 #[.int .i64 n] w fun e w' => e = .returned (.bool false) ∧ w = w' := by
  by_cases h1 : n < 1
  · clear h
    go_enter Try.func31, Try.ntmps31
    go_wp2
    go_ret
    exact ⟨rfl, rfl⟩
  · have h2 : ¬ n ≤ 1024 := by omega
    clear h
    go_enter Try.func31, Try.ntmps31
    go_wp2
    go_ret
    exact ⟨rfl, rfl⟩
set_option maxRecDepth 100000 in
theorem over_short (l : List UInt8) (n : Nat) (w : World) (h : l.length < n) :
    Calls Try.prog 32 #[.string ⟨l.toArray⟩, .int .i64 n] w fun e w' => e = .returned (.tuple #[.pointer none, .bool false]) ∧ w = w' := by
  have L := Lib.hid (show (⟨l.toArray⟩ : ByteArray).size = l.length from rfl)
  go_enter Try.func32, Try.ntmps32
  go_wp2
  go_ret2
  exact ⟨rfl, rfl⟩
theorem win_zero (l : List UInt8) (n : Nat) : win l n 0 = l.take n := by unfold win; simp
set_option maxRecDepth 100000 in
set_option maxHeartbeats 1000000 in
theorem over_ok (l : List UInt8) (n : Nat) (w : World) (h : n ≤ l.length) (hl : l.length ≤ 140737488351232) :
    Calls Try.prog 32 #[.string ⟨l.toArray⟩, .int .i64 n] w fun e w' => ∃ p, e = .returned (.tuple #[rollP p, .bool true]) ∧ RollOn w' p l n 0 ∧ w.heap.size ≤ p ∧ Below w.heap.size w w' := by
  have L := Lib.hid (show (⟨l.toArray⟩ : ByteArray).size = l.length from rfl)
  have E := take_toArray l n
  have OF := fun w' => Lib.hid (of_any (l.take n) w' (by rw [List.length_take]; omega))
  go_enter Try.func32, Try.ntmps32
  go_wp2_with fail
  refine (OF _).out.mono ?_
  rintro e w1 ⟨rfl, b1⟩
  go_wp2
  go_ret2
  refine ⟨w1.heap.size, rfl, ?_, b1.size, b1.alloc b1.size _⟩
  unfold RollOn
  rw [win_zero]
  exact heap_alloc_new _ _
set_option maxRecDepth 100000 in
theorem clone_any (l : List UInt8) (w : World) (hl : l.length ≤ 140737488351232) :
    Calls Try.prog 33 #[.string ⟨l.toArray⟩] w fun e w' => e = .returned (.string ⟨l.toArray⟩) ∧ Below w.heap.size w w' := by
  have C := fun w' => Lib.hid (Try.stringslite_Clone ⟨l.toArray⟩ w' (by show l.length ≤ _; omega))
  go_enter Try.func33, Try.ntmps33
  go_wp2_with fail
  refine (C _).out.mono ?_
  rintro e w1 ⟨rfl, hb1⟩
  go_wp2
  go_ret
  exact ⟨rfl, hb1⟩
set_option maxRecDepth 100000 in
theorem new_arg (l : List UInt8) (n : Int) (w : World) (h : n < 1 ∨ n > 1024) :
    Calls Try.prog 16 #[.string ⟨l.toArray⟩, .int .i64 n] w fun e w' => e = .returned (.tuple #[.pointer none, .int .i64 1]) ∧ w = w' := by
  have I := fun w' => Lib.hid (isSize_no n w' h)
  clear h
  go_enter Try.func16, Try.ntmps16
  go_wp2_with fail
  refine (I _).out.mono ?_
  rintro e w' ⟨rfl, rfl⟩
  go_wp2
  go_ret2
  exact ⟨rfl, rfl⟩
set_option maxRecDepth 100000 in
theorem new_short (l : List UInt8) (n : Nat) (w : World) (h1 : 1 ≤ n) (h2 : n ≤ 1024) (h : l.length < n) :
    Calls Try.prog 16 #[.string ⟨l.toArray⟩, .int .i64 n] w fun e w' => e = .returned (.tuple #[.pointer none, .int .i64 3]) ∧ Below w.heap.size w w' := by
  have I := fun w' => Lib.hid (isSize_yes n w' (by omega) (by omega))
  have C := fun w' => Lib.hid (clone_any l w' (by omega))
  have O := fun w' => Lib.hid (over_short l n w' h)
  clear h1 h2 h
  go_enter Try.func16, Try.ntmps16
  go_wp2_with fail
  refine (I _).out.mono ?_
  rintro e w' ⟨rfl, rfl⟩
  go_wp2_with fail
  refine (C _).out.mono ?_
  rintro e w1 ⟨rfl, b1⟩
  go_wp2_with fail
  refine (O _).out.mono ?_
  rintro e w' ⟨rfl, rfl⟩
  go_wp2
  go_ret2
  exact ⟨rfl, b1⟩
set_option maxRecDepth 100000 in
theorem new_ok (l : List UInt8) (n : Nat) (w : World) (h1 : 1 ≤ n) (h2 : n ≤ 1024) (h : n ≤ l.length) (hl : l.length ≤ 140737488351232) :
    Calls Try.prog 16 #[.string ⟨l.toArray⟩, .int .i64 n] w fun e w' => ∃ p, e = .returned (.tuple #[rollP p, .int .i64 0]) ∧ RollOn w' p l n 0 ∧ w.heap.size ≤ p ∧ Below w.heap.size w w' := by
  have I := fun w' => Lib.hid (isSize_yes n w' (by omega) (by omega))
  have C := fun w' => Lib.hid (clone_any l w' hl)
  have O := fun w' => Lib.hid (over_ok l n w' h hl)
  clear h1 h2 h
  go_enter Try.func16, Try.ntmps16
  go_wp2_with fail
  refine (I _).out.mono ?_
  rintro e w' ⟨rfl, rfl⟩
  go_wp2_with fail
  refine (C _).out.mono ?_
  rintro e w1 ⟨rfl, b1⟩
  go_wp2_with fail
  refine (O _).out.mono ?_
  rintro e w2 ⟨p, rfl, hr, hp, b2⟩
  go_wp2
  go_ret2
  exact ⟨p, rfl, hr, Nat.le_trans b1.size hp, below2 b1 b2⟩
end Go.Proofs.Ytmpoflnigenilaa
