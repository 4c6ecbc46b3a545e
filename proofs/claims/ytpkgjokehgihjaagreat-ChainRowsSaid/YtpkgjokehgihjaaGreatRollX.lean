/- Several texts in one: MoveW, GoW, Go2W. -/
import Derived.Test.YtpkgjokehgihjaaGreatGen
import Derived.Test.YtpkgjokehgihjaaGreatRollMath
import Derived.Test.YtpkgjokehgihjaaGreatRows
import Derived.Test.YtpkgjokehgihjaaGreatShelf
import Derived.Test.YtpkgjokehgihjaaGreatWkX
import Derived.Deep.QuietTactic
import Derived.Laws.BitsAllLaws
import Derived.WalkKit
/- Walks of a window's own questions and moves. -/
set_option linter.unusedVariables false
namespace Go.Proofs.YtpkgjokehgihjaaGreat
open Go.RowKit

abbrev rollP (p : Nat) : Value := .pointer (some ⟨p, 0, none⟩)
theorem RollAt.kept {w w' : World} {p n k a b : Nat} {l : List UInt8} {M : Nat → Prop} (h : RollAt w p l n k a b) (hk : Kept M w w') (hp : ¬ M p) : RollAt w' p l n k a b := hk.old h hp
theorem RollAt.c0 {w : World} {p n k a b : Nat} {l : List UInt8} (h : RollAt w p l n k a b) : w.cell? ⟨p, 0, none⟩ = some (.string ⟨l.toArray⟩) := by rw [cell_of_row _ _ _ _ _ _ h]; rfl
theorem RollAt.c1 {w : World} {p n k a b : Nat} {l : List UInt8} (h : RollAt w p l n k a b) : w.cell? ⟨p, 1, none⟩ = some (.int .i64 (n : Int)) := by rw [cell_of_row _ _ _ _ _ _ h]; rfl
theorem RollAt.c2 {w : World} {p n k a b : Nat} {l : List UInt8} (h : RollAt w p l n k a b) : w.cell? ⟨p, 2, none⟩ = some (.int .i64 (k : Int)) := by rw [cell_of_row _ _ _ _ _ _ h]; rfl
theorem RollAt.c3 {w : World} {p n k a b : Nat} {l : List UInt8} (h : RollAt w p l n k a b) : w.cell? ⟨p, 3, none⟩ = some (.int .u16 (a : Int)) := by rw [cell_of_row _ _ _ _ _ _ h]; rfl
theorem RollAt.c4 {w : World} {p n k a b : Nat} {l : List UInt8} (h : RollAt w p l n k a b) : w.cell? ⟨p, 4, none⟩ = some (.int .u16 (b : Int)) := by rw [cell_of_row _ _ _ _ _ _ h]; rfl
theorem RollAt.fr {w : World} {p n k a b : Nat} {l : List UInt8} (h : RollAt w p l n k a b) (j : Nat) : w.frozen? ⟨p, j, none⟩ = false := frozen_of_row w p j _ _ h
theorem RollAt.lt {w : World} {p n k a b : Nat} {l : List UInt8} (h : RollAt w p l n k a b) : p < w.heap.size := (Array.getElem?_eq_some_iff.1 h).1

set_option maxRecDepth 100000 in
theorem ready_any (p n k a b : Nat) (l : List UInt8) (w : World) (h : RollAt w p l n k a b) (hn : 0 < n) :
    Calls Tryz.prog 87 #[rollP p] w fun e w' => e = .returned (.bool true) ∧ w = w' := by
  have c1 := h.c1
  go_enter Tryz.func87, Tryz.ntmps87
  go_wp2
  go_ret
  exact ⟨rfl, rfl⟩
set_option maxRecDepth 100000 in
theorem ready_nil (w : World) :
    Calls Tryz.prog 87 #[.pointer none] w fun e w' => e = .returned (.bool false) ∧ w = w' := by
  go_enter Tryz.func87, Tryz.ntmps87
  go_wp2
  go_ret
  exact ⟨rfl, rfl⟩
set_option maxRecDepth 100000 in
theorem ready_zero (p k a b : Nat) (l : List UInt8) (w : World) (h : RollAt w p l 0 k a b) :
    Calls Tryz.prog 87 #[rollP p] w fun e w' => e = .returned (.bool false) ∧ w = w' := by
  have c1 : w.cell? ⟨p, 1, none⟩ = some (.int .i64 0) := h.c1
  go_enter Tryz.func87, Tryz.ntmps87
  go_wp2
  go_ret
  exact ⟨rfl, rfl⟩

set_option maxRecDepth 100000 in
theorem rleft_any (p n k a b d : Nat) (l : List UInt8) (w : World) (h : RollAt w p l n k a b) (hd : l.length = k + n + d) (hl : l.length ≤ 140737488351232) :
    Calls Tryz.prog 91 #[rollP p] w fun e w' => ∃ m, e = .returned (.int .i64 (d : Int)) ∧ w' = w.drewN m := by
  have L := Lib.hid (show (⟨l.toArray⟩ : ByteArray).size = l.length from rfl)
  have c0 := h.c0
  have c1 := h.c1
  have c2 := h.c2
  have E := Lib.hid (show wrap64 (wrap64 ((l.length : Int) - (k : Int)) - (n : Int)) = (d : Int) by
    rw [show (l.length : Int) - (k : Int) = ((n + d : Nat) : Int) by omega, wrap64_lt _ (by omega), show ((n + d : Nat) : Int) - (n : Int) = (d : Int) by omega, wrap64_lt _ (by omega)])
  clear hd
  go_enter Tryz.func91, Tryz.ntmps91
  go_wp2
  go_quiet (fail)
  go_wp2
  go_ret
  exact ⟨_, by rw [← E.out]; rfl, rfl⟩
set_option maxRecDepth 100000 in
theorem in_any (p n k a b : Nat) (l : List UInt8) (w : World) (h : RollAt w p l n k a b) (hd : k + n ≤ l.length) (hl : l.length ≤ 140737488351232) :
    Calls Tryz.prog 93 #[rollP p] w fun e w' => ∃ m, e = .returned (.string ⟨(win l n k).toArray⟩) ∧ w' = w.drewN m := by
  have L := Lib.hid (show (⟨l.toArray⟩ : ByteArray).size = l.length from rfl)
  have c0 := h.c0
  have c1 := h.c1
  have c2 := h.c2
  have E := Lib.hid (slice_toArray l k (k + n))
  go_enter Tryz.func93, Tryz.ntmps93
  go_wp2
  go_quiet (fail)
  go_wp2
  go_ret
  exact ⟨_, by rw [show win l n k = (l.take (k + n)).drop k from rfl, ← E.out]; rfl, rfl⟩
set_option maxRecDepth 100000 in
theorem at_any (p n k a b : Nat) (l : List UInt8) (w : World) (h : RollAt w p l n k a b) (hn : 0 < n) :
    Calls Tryz.prog 58 #[rollP p] w fun e w' => e = .returned (.int .i64 (k : Int)) ∧ w = w' := by
  have c2 := h.c2
  have R := Lib.hid (ready_any p n k a b l w h hn)
  go_enter Tryz.func58, Tryz.ntmps58
  go_wp2_with fail
  refine R.out.mono ?_
  rintro e w' ⟨rfl, rfl⟩
  go_wp2
  go_ret
  exact ⟨rfl, rfl⟩
set_option maxRecDepth 100000 in
theorem sumR_any (p n k a b : Nat) (l : List UInt8) (w : World) (h : RollAt w p l n k a b) (hn : 0 < n) (ha : a < 65536) (hb : b < 65536) :
    Calls Tryz.prog 60 #[rollP p] w fun e w' => e = .returned (.int .i64 ((a + 65536 * b : Nat) : Int)) ∧ Below w.heap.size w w' := by
  have c3 := h.c3
  have c4 := h.c4
  have R := Lib.hid (ready_any p n k a b l w h hn)
  have N := fun w' => Lib.hid (wnum_any a b w' ha hb)
  go_enter Tryz.func60, Tryz.ntmps60
  go_wp2_with fail
  refine R.out.mono ?_
  rintro e w' ⟨rfl, rfl⟩
  go_wp2_with fail
  refine (N _).out.mono ?_
  rintro e w2 ⟨rfl, hb2⟩
  go_wp2
  go_ret
  exact ⟨rfl, hb2⟩
end Go.Proofs.YtpkgjokehgihjaaGreat
/- Walks of a window's Next and Skip. -/
set_option linter.unusedVariables false
namespace Go.Proofs.YtpkgjokehgihjaaGreat
open Go.RowKit

set_option maxRecDepth 100000 in
set_option maxHeartbeats 1000000 in
theorem letGo_any (p n k a b c x y : Nat) (l : List UInt8) (w : World) (ha : a < 65536) (hb : b < 65536) (hc : c < 256) (hn : n ≤ 1024) (hx : ((a : Int) - (c : Int)) % 65536 = (x : Int)) (hy : ((b : Int) - ((n * c : Nat) : Int)) % 65536 = (y : Int)) (h : RollAt w p l n k a b) :
    Calls Tryz.prog 92 #[.pointer (some ⟨p, 3, none⟩), .int .u8 c, .int .i64 n] w fun e w' => e = .returned (.tuple #[]) ∧ RollAt w' p l n k x y ∧ Kept (· = p) w w' := by
  obtain ⟨z, hz⟩ : ∃ z, n * c % 65536 = z := ⟨_, rfl⟩
  have wn : IntKind.u16.wrap (n : Int) = (n : Int) := by rw [IntKind.wrap_u16]; omega
  have wx : IntKind.u16.wrap ((a : Int) - (c : Int)) = (x : Int) := by rw [IntKind.wrap_u16, hx]
  have wz : IntKind.u16.wrap ((n : Int) * (c : Int)) = (z : Int) := by rw [IntKind.wrap_u16, ← Int.natCast_mul]; omega
  have wy : IntKind.u16.wrap ((b : Int) - (z : Int)) = (y : Int) := by rw [IntKind.wrap_u16, ← hy]; omega
  clear hx hy hz
  have c3 := h.c3
  have f3 := h.fr 3
  have h1 := heap_setCell_same w p 3 _ _ (.int .u16 (x : Int)) h
  have h1' : RollAt (w.setCell ⟨p, 3, none⟩ (.int .u16 (x : Int))) p l n k x b := h1
  have k1 := (Kept.refl (· = p) w).setCell (p := ⟨p, 3, none⟩) rfl (.int .u16 (x : Int))
  have c4 := h1'.c4
  have f4 := h1'.fr 4
  have h2 := Lib.hid (heap_setCell_same _ p 4 _ _ (.int .u16 (y : Int)) h1')
  have k2 := Lib.hid (k1.setCell (p := ⟨p, 4, none⟩) rfl (.int .u16 (y : Int)))
  clear h1 h1' k1 h
  go_enter Tryz.func92, Tryz.ntmps92
  go_wp2
  go_end0
  exact ⟨rfl, h2.out, k2.out⟩

/-- A window over a text, its sum being that of what lies in it. -/
def RollOn (w : World) (p : Nat) (l : List UInt8) (n k : Nat) : Prop := RollAt w p l n k (lo (win l n k)) (hi (win l n k))
theorem RollOn.kept {w w' : World} {p n k : Nat} {l : List UInt8} {M : Nat → Prop} (h : RollOn w p l n k) (hk : Kept M w w') (hp : ¬ M p) : RollOn w' p l n k := hk.old h hp

theorem win_step (l : List UInt8) (n k : Nat) (h : k + n < l.length) (hn : 0 < n) : ∃ x y : Nat, (((lo (win l n k) : Nat) : Int) - ((l[k]'(by omega)).toNat : Int)) % 65536 = (x : Int) ∧ (((hi (win l n k) : Nat) : Int) - ((n * (l[k]'(by omega)).toNat : Nat) : Int)) % 65536 = (y : Int) ∧ x < 65536 ∧ y < 65536 ∧
    (x + (l[k + n]'h).toNat) % 65536 = lo (win l n (k + 1)) ∧ (y + (x + (l[k + n]'h).toNat) % 65536) % 65536 = hi (win l n (k + 1)) := by
  have h1 := win_lo l n k h hn
  have h2 := win_hi l n k h hn
  refine ⟨((((lo (win l n k) : Nat) : Int) - ((l[k]'(by omega)).toNat : Int)) % 65536).toNat, ((((hi (win l n k) : Nat) : Int) - ((n * (l[k]'(by omega)).toNat : Nat) : Int)) % 65536).toNat, ?_, ?_, ?_, ?_, ?_, ?_⟩
  · omega
  · omega
  · omega
  · omega
  · omega
  · omega

set_option maxRecDepth 100000 in
set_option maxHeartbeats 1000000 in
theorem next_step (p n k : Nat) (l : List UInt8) (w : World) (h : RollOn w p l n k) (hn : 0 < n) (hn2 : n ≤ 1024) (hlt : k + n < l.length) (hl : l.length ≤ 140737488351232) :
    Calls Tryz.prog 61 #[rollP p] w fun e w' => e = .returned (.bool true) ∧ RollOn w' p l n (k + 1) ∧ Kept (· = p) w w' := by
  have a1 := lo_lt (win l n k)
  have a2 := hi_lt (win l n k)
  obtain ⟨x, y, hx, hy, x1, y1, e1, e2⟩ := win_step l n k hlt hn
  unfold RollOn
  obtain ⟨j, hj, hlj⟩ : ∃ j, j = k + n ∧ j < l.length := ⟨_, rfl, hlt⟩
  have f1 : (x + (l[j]'hlj).toNat) % 65536 = lo (win l n (k + 1)) := by subst hj; exact e1
  have f2 : (y + (x + (l[j]'hlj).toNat) % 65536) % 65536 = hi (win l n (k + 1)) := by subst hj; exact e2
  rw [← f2, ← f1]
  clear e1 e2 f1 f2
  have hk1 : k < l.length := by omega
  have L := Lib.hid (show (⟨l.toArray⟩ : ByteArray).size = l.length from rfl)
  have h0 : RollAt w p l n k (lo (win l n k)) (hi (win l n k)) := h
  clear h
  have R := Lib.hid (ready_any p n k _ _ l w h0 hn)
  obtain ⟨d, hd⟩ : ∃ d, l.length = k + n + (d + 1) := ⟨l.length - (k + n) - 1, by omega⟩
  have LE := Lib.hid (rleft_any p n k _ _ (d + 1) l w h0 hd hl)
  clear hd
  have G := fun w' h' => Lib.hid (letGo_any p n k _ _ (l[k]'(by omega)).toNat x y l w' a1 a2 (UInt8.toNat_lt _) hn2 hx hy h')
  have wj : IntKind.i64.wrap ((k : Int) + (n : Int)) = (j : Int) := by rw [IntKind.wrap_i64]; omega
  have T := fun w' h' => Lib.hid (takeInR_any p n k x y (l[j]'hlj).toNat l w' x1 y1 (UInt8.toNat_lt _) h')
  generalize lo (win l n k) = a at *
  generalize hi (win l n k) = b at *
  clear hx hy hj hlt
  have H : Hid (RollAt w p l n k a b) := Lib.hid h0
  clear h0
  go_enter Tryz.func61, Tryz.ntmps61
  go_wp2_with fail
  refine R.out.mono ?_
  rintro e w' ⟨rfl, rfl⟩
  go_wp2_with fail
  refine LE.out.mono ?_
  rintro e w' ⟨m, rfl, rfl⟩
  clear R LE
  go_wp2
  have H1 : Hid (RollAt (w.drewN m) p l n k a b) := Lib.hid H.out
  have K1 : Hid (Kept (· = p) w (w.drewN m)) := Lib.hid (Kept.of_drewN w m)
  generalize w.drewN m = w1 at *
  have c0 := H1.out.c0
  have c1 := H1.out.c1
  have c2 := H1.out.c2
  have H1d : Hid (RollAt w1.drew p l n k a b) := Lib.hid H1.out
  have K1d := Lib.hid K1.out.drew
  clear H K1
  go_still_tail 16, (by kernel_rfl)
  change wpList _ _ _ _ _ w1.drew
  clear c0 c1 c2
  generalize w1.drew = w2 at *
  go_wp2_with fail
  refine (G _ H1d.out).out.mono ?_
  rintro e w3 ⟨rfl, h3, k3⟩
  have K3 := Lib.hid (K1d.out.trans k3)
  clear K1d k3 G H1 H1d
  go_wp2
  have c0 := h3.c0
  have c1 := h3.c1
  have c2 := h3.c2
  have H3d : Hid (RollAt w3.drew p l n k x y) := Lib.hid h3
  have K3d := Lib.hid K3.out.drew
  clear h3 K3
  go_still_tail 17, (by kernel_rfl)
  change wpList _ _ _ _ _ w3.drew
  clear c0 c1 c2
  generalize w3.drew = w4 at *
  go_wp2_with fail
  refine (T _ H3d.out).out.mono ?_
  rintro e w5 ⟨rfl, h5, k5⟩
  have K5 := Lib.hid (K3d.out.trans k5)
  clear K3d k5 T H3d
  have c2 := h5.c2
  have f2 := h5.fr 2
  have h6 := Lib.hid (heap_setCell_same w5 p 2 _ _ (.int .i64 ((k + 1 : Nat) : Int)) h5)
  have K6 := Lib.hid (K5.out.setCell (p := ⟨p, 2, none⟩) rfl (.int .i64 ((k + 1 : Nat) : Int)))
  clear h5 K5
  go_wp2
  go_ret
  exact ⟨rfl, h6.out, K6.out⟩
end Go.Proofs.YtpkgjokehgihjaaGreat
/- Walks of a window's Next at the end, Skip, and of how windows are made. -/
set_option linter.unusedVariables false
namespace Go.Proofs.YtpkgjokehgihjaaGreat
open Go.RowKit

set_option maxRecDepth 100000 in
theorem next_end (p n k : Nat) (l : List UInt8) (w : World) (h : RollOn w p l n k) (hn : 0 < n) (hlt : k + n = l.length) (hl : l.length ≤ 140737488351232) :
    Calls Tryz.prog 61 #[rollP p] w fun e w' => e = .returned (.bool false) ∧ ∃ m, w' = w.drewN m := by
  have R := Lib.hid (ready_any p n k _ _ l w h hn)
  have LE := Lib.hid (rleft_any p n k _ _ 0 l w h (by omega) hl)
  clear h hlt
  go_enter Tryz.func61, Tryz.ntmps61
  go_wp2_with fail
  refine R.out.mono ?_
  rintro e w' ⟨rfl, rfl⟩
  go_wp2_with fail
  refine LE.out.mono ?_
  rintro e w' ⟨m, rfl, rfl⟩
  go_wp2
  go_ret
  exact ⟨rfl, _, rfl⟩

set_option maxRecDepth 100000 in
theorem skip_neg (p n k : Nat) (z : Int) (l : List UInt8) (w : World) (h : RollOn w p l n k) (hn : 0 < n) (hz : z < 0) :
    Calls Tryz.prog 64 #[rollP p, .int .i64 z] w fun e w' => e = .returned (.bool false) ∧ w = w' := by
  have R := Lib.hid (ready_any p n k _ _ l w h hn)
  clear h
  go_enter Tryz.func64, Tryz.ntmps64
  go_wp2_with fail
  refine R.out.mono ?_
  rintro e w' ⟨rfl, rfl⟩
  go_wp2
  go_ret
  exact ⟨rfl, rfl⟩
set_option maxRecDepth 100000 in
theorem skip_far (p n k : Nat) (z : Int) (l : List UInt8) (w : World) (h : RollOn w p l n k) (hn : 0 < n) (hk : k + n ≤ l.length) (hz : (l.length : Int) < k + n + z) (hl : l.length ≤ 140737488351232) :
    Calls Tryz.prog 64 #[rollP p, .int .i64 z] w fun e w' => e = .returned (.bool false) ∧ ∃ m, w' = w.drewN m := by
  have R := Lib.hid (ready_any p n k _ _ l w h hn)
  obtain ⟨d, hd⟩ : ∃ d, l.length = k + n + d := ⟨l.length - (k + n), by omega⟩
  have LE := Lib.hid (rleft_any p n k _ _ d l w h hd hl)
  have hz0 : ¬ z < 0 := by omega
  have hz1 : z > (d : Int) := by omega
  clear h hd hz hk
  go_enter Tryz.func64, Tryz.ntmps64
  go_wp2_with fail
  refine R.out.mono ?_
  rintro e w' ⟨rfl, rfl⟩
  go_wp2_with fail
  refine LE.out.mono ?_
  rintro e w' ⟨m, rfl, rfl⟩
  go_wp2
  go_ret
  exact ⟨rfl, _, rfl⟩
set_option maxRecDepth 100000 in
set_option maxHeartbeats 1000000 in
theorem skip_ok (p n k d : Nat) (z : Int) (l : List UInt8) (w : World) (h : RollOn w p l n k) (hn : 0 < n) (hz : z = (d : Int)) (hd : k + n + d ≤ l.length) (hl : l.length ≤ 140737488351232) :
    Calls Tryz.prog 64 #[rollP p, .int .i64 z] w fun e w' => e = .returned (.bool true) ∧ RollOn w' p l n (k + d) ∧ Kept (· = p) w w' := by
  have h0 : RollAt w p l n k (lo (win l n k)) (hi (win l n k)) := h
  clear h
  have R := Lib.hid (ready_any p n k _ _ l w h0 hn)
  obtain ⟨q, hq⟩ : ∃ q, l.length = k + n + q := ⟨l.length - (k + n), by omega⟩
  have LE := Lib.hid (rleft_any p n k _ _ q l w h0 hq hl)
  generalize lo (win l n k) = a at *
  generalize hi (win l n k) = b at *
  obtain ⟨j, hj⟩ : ∃ j, k + d = j := ⟨_, rfl⟩
  rw [hj]
  have wj : IntKind.i64.wrap ((k : Int) + z) = (j : Int) := by rw [IntKind.wrap_i64]; omega
  have hz0 : ¬ z < 0 := by omega
  have hz1 : ¬ z > (q : Int) := by omega
  have hjl : j + n ≤ l.length := by omega
  have IN := fun w' h' => Lib.hid (in_any p n j a b l w' h' hjl hl)
  have OF := fun w' => Lib.hid (wof_any (win l n j) w' (by rw [win_length _ _ _ hjl]; omega))
  have H : Hid (RollAt w p l n k a b) := Lib.hid h0
  clear h0 hz hd hq hj
  go_enter Tryz.func64, Tryz.ntmps64
  go_wp2_with fail
  refine R.out.mono ?_
  rintro e w' ⟨rfl, rfl⟩
  go_wp2_with fail
  refine LE.out.mono ?_
  rintro e w' ⟨m, rfl, rfl⟩
  have H1 : RollAt (w.drewN m) p l n k a b := H.out
  have K1 : Kept (· = p) w (w.drewN m) := Kept.of_drewN w m
  generalize w.drewN m = w1 at *
  have c2 := H1.c2
  have f2 := H1.fr 2
  have H2 := Lib.hid (show RollAt (w1.setCell ⟨p, 2, none⟩ (.int .i64 (j : Int))) p l n j a b from heap_setCell_same w1 p 2 _ _ (.int .i64 (j : Int)) H1)
  have K2 := Lib.hid (K1.setCell (p := ⟨p, 2, none⟩) rfl (.int .i64 (j : Int)))
  clear R LE H H1 K1
  go_wp2_with fail
  generalize w1.setCell ⟨p, 2, none⟩ (.int .i64 (j : Int)) = w2 at *
  refine (IN _ H2.out).out.mono ?_
  rintro e w' ⟨m2, rfl, rfl⟩
  have H3 : Hid (RollAt (w2.drewN m2) p l n j a b) := Lib.hid H2.out
  have K3 : Hid (Kept (· = p) w (w2.drewN m2)) := Lib.hid (K2.out.trans (Kept.of_drewN w2 m2))
  generalize w2.drewN m2 = w3 at *
  clear H2 K2 IN c2 f2
  go_wp2_with fail
  refine (OF _).out.mono ?_
  rintro e w4 ⟨rfl, b4⟩
  have H4 : RollAt w4 p l n j a b := H3.out.kept (M := fun _ => False) (Kept.new b4 _) (fun h => h)
  have K4 : Kept (· = p) w w4 := K3.out.trans (Kept.new b4 _)
  have c3 := H4.c3
  have f3 := H4.fr 3
  have h5 := heap_setCell_same w4 p 3 _ _ (.int .u16 (lo (win l n j) : Nat)) H4
  have h5' : RollAt (w4.setCell ⟨p, 3, none⟩ (.int .u16 (lo (win l n j) : Nat))) p l n j (lo (win l n j)) b := h5
  have c4 := h5'.c4
  have f4 := h5'.fr 4
  have h6 := Lib.hid (heap_setCell_same _ p 4 _ _ (.int .u16 (hi (win l n j) : Nat)) h5')
  have K6 := Lib.hid ((K4.setCell (p := ⟨p, 3, none⟩) rfl (.int .u16 (lo (win l n j) : Nat))).setCell (p := ⟨p, 4, none⟩) rfl (.int .u16 (hi (win l n j) : Nat)))
  clear h5 h5' H4 K4 OF b4 H3 K3
  go_wp2
  go_ret
  exact ⟨rfl, h6.out, K6.out⟩

/-! ### How windows are made -/
set_option maxRecDepth 100000 in
theorem isSize_yes (n : Int) (w : World) (h1 : 1 ≤ n) (h2 : n ≤ 1024) : Calls Tryz.prog 85 #[.int .i64 n] w fun e w' => e = .returned (.bool true) ∧ w = w' := by
  go_enter Tryz.func85, Tryz.ntmps85
  go_wp2
  go_ret
  exact ⟨rfl, rfl⟩
set_option maxRecDepth 100000 in
theorem isSize_no (n : Int) (w : World) (h : n < 1 ∨ n > 1024) : Calls Tryz.prog 85 #[.int .i64 n] w fun e w' => e = .returned (.bool false) ∧ w = w' := by
  by_cases h1 : n < 1
  · clear h
    go_enter Tryz.func85, Tryz.ntmps85
    go_wp2
    go_ret
    exact ⟨rfl, rfl⟩
  · have h2 : ¬ n ≤ 1024 := by omega
    clear h
    go_enter Tryz.func85, Tryz.ntmps85
    go_wp2
    go_ret
    exact ⟨rfl, rfl⟩
set_option maxRecDepth 100000 in
theorem over_short (l : List UInt8) (n : Nat) (w : World) (h : l.length < n) :
    Calls Tryz.prog 86 #[.string ⟨l.toArray⟩, .int .i64 n] w fun e w' => e = .returned (.tuple #[.pointer none, .bool false]) ∧ w = w' := by
  have L := Lib.hid (show (⟨l.toArray⟩ : ByteArray).size = l.length from rfl)
  go_enter Tryz.func86, Tryz.ntmps86
  go_wp2
  go_ret2
  exact ⟨rfl, rfl⟩
theorem win_zero (l : List UInt8) (n : Nat) : win l n 0 = l.take n := by unfold win; simp
set_option maxRecDepth 100000 in
set_option maxHeartbeats 1000000 in
theorem over_ok (l : List UInt8) (n : Nat) (w : World) (h : n ≤ l.length) (hl : l.length ≤ 140737488351232) :
    Calls Tryz.prog 86 #[.string ⟨l.toArray⟩, .int .i64 n] w fun e w' => ∃ p, e = .returned (.tuple #[rollP p, .bool true]) ∧ RollOn w' p l n 0 ∧ w.heap.size ≤ p ∧ Below w.heap.size w w' := by
  have L := Lib.hid (show (⟨l.toArray⟩ : ByteArray).size = l.length from rfl)
  have E := take_toArray l n
  have OF := fun w' => Lib.hid (wof_any (l.take n) w' (by rw [List.length_take]; omega))
  go_enter Tryz.func86, Tryz.ntmps86
  go_wp2_with fail
  refine (OF _).out.mono ?_
  rintro e w1 ⟨rfl, b1⟩
  go_wp2
  go_ret2
  refine ⟨w1.heap.size, rfl, ?_, b1.size, b1.alloc b1.size _⟩
  unfold RollOn
  rw [win_zero]
  exact heap_alloc_new _ _
set_option maxRecDepth 100000 in
theorem rclone_any (l : List UInt8) (w : World) (hl : l.length ≤ 140737488351232) :
    Calls Tryz.prog 13 #[.string ⟨l.toArray⟩] w fun e w' => e = .returned (.string ⟨l.toArray⟩) ∧ Below w.heap.size w w' := by
  have C := fun w' => Lib.hid (Tryz.stringslite_Clone ⟨l.toArray⟩ w' (by show l.length ≤ _; omega))
  go_enter Tryz.func13, Tryz.ntmps13
  go_wp2_with fail
  refine (C _).out.mono ?_
  rintro e w1 ⟨rfl, hb1⟩
  go_wp2
  go_ret
  exact ⟨rfl, hb1⟩
set_option maxRecDepth 100000 in
theorem new_arg (l : List UInt8) (n : Int) (w : World) (h : n < 1 ∨ n > 1024) :
    Calls Tryz.prog 57 #[.string ⟨l.toArray⟩, .int .i64 n] w fun e w' => e = .returned (.tuple #[.pointer none, .int .i64 1]) ∧ w = w' := by
  have I := fun w' => Lib.hid (isSize_no n w' h)
  clear h
  go_enter Tryz.func57, Tryz.ntmps57
  go_wp2_with fail
  refine (I _).out.mono ?_
  rintro e w' ⟨rfl, rfl⟩
  go_wp2
  go_ret2
  exact ⟨rfl, rfl⟩
set_option maxRecDepth 100000 in
theorem new_short (l : List UInt8) (n : Nat) (w : World) (h1 : 1 ≤ n) (h2 : n ≤ 1024) (h : l.length < n) :
    Calls Tryz.prog 57 #[.string ⟨l.toArray⟩, .int .i64 n] w fun e w' => e = .returned (.tuple #[.pointer none, .int .i64 3]) ∧ Below w.heap.size w w' := by
  have I := fun w' => Lib.hid (isSize_yes n w' (by omega) (by omega))
  have C := fun w' => Lib.hid (rclone_any l w' (by omega))
  have O := fun w' => Lib.hid (over_short l n w' h)
  clear h1 h2 h
  go_enter Tryz.func57, Tryz.ntmps57
  go_wp2_with fail
  refine (I _).out.mono ?_
  rintro e w' ⟨rfl, rfl⟩
  go_wp2_with fail
  refine (C _).out.mono ?_
  rintro e w1 ⟨rfl, b1⟩
  go_wp2_with fail
  refine (O _).out.mono ?_
  rintro e w' ⟨rfl, rfl⟩
  go_wp2
  go_ret2
  exact ⟨rfl, b1⟩
set_option maxRecDepth 100000 in
theorem new_ok (l : List UInt8) (n : Nat) (w : World) (h1 : 1 ≤ n) (h2 : n ≤ 1024) (h : n ≤ l.length) (hl : l.length ≤ 140737488351232) :
    Calls Tryz.prog 57 #[.string ⟨l.toArray⟩, .int .i64 n] w fun e w' => ∃ p, e = .returned (.tuple #[rollP p, .int .i64 0]) ∧ RollOn w' p l n 0 ∧ w.heap.size ≤ p ∧ Below w.heap.size w w' := by
  have I := fun w' => Lib.hid (isSize_yes n w' (by omega) (by omega))
  have C := fun w' => Lib.hid (rclone_any l w' hl)
  have O := fun w' => Lib.hid (over_ok l n w' h hl)
  clear h1 h2 h
  go_enter Tryz.func57, Tryz.ntmps57
  go_wp2_with fail
  refine (I _).out.mono ?_
  rintro e w' ⟨rfl, rfl⟩
  go_wp2_with fail
  refine (C _).out.mono ?_
  rintro e w1 ⟨rfl, b1⟩
  go_wp2_with fail
  refine (O _).out.mono ?_
  rintro e w2 ⟨p, rfl, hr, hp, b2⟩
  go_wp2
  go_ret2
  exact ⟨p, rfl, hr, Nat.le_trans b1.size hp, below2 b1 b2⟩
end Go.Proofs.YtpkgjokehgihjaaGreat
