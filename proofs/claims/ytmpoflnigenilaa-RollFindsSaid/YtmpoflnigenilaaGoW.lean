/- Walks of a window's Next and Skip. -/
import Derived.Test.YtmpoflnigenilaaMoveW
set_option linter.unusedVariables false
namespace Go.Proofs.Ytmpoflnigenilaa
open Go.RowKit

set_option maxRecDepth 100000 in
set_option maxHeartbeats 1000000 in
theorem letGo_any (p n k a b c x y : Nat) (l : List UInt8) (w : World) (ha : a < 65536) (hb : b < 65536) (hc : c < 256) (hn : n ≤ 1024) (hx : ((a : Int) - (c : Int)) % 65536 = (x : Int)) (hy : ((b : Int) - ((n * c : Nat) : Int)) % 65536 = (y : Int)) (h : RollAt w p l n k a b) :
    Calls Try.prog 36 #[.pointer (some ⟨p, 3, none⟩), .int .u8 c, .int .i64 n] w fun e w' => e = .returned (.tuple #[]) ∧ RollAt w' p l n k x y ∧ Kept (· = p) w w' := by
  obtain ⟨z, hz⟩ : ∃ z, n * c % 65536 = z := ⟨_, rfl⟩
  have wn : IntKind.u16.wrap (n : Int) = (n : Int) := by rw [IntKind.wrap_u16]; omega
  have wx : IntKind.u16.wrap ((a : Int) - (c : Int)) = (x : Int) := by rw [IntKind.wrap_u16, hx]
  have wz : IntKind.u16.wrap ((n : Int) * (c : Int)) = (z : Int) := by rw [IntKind.wrap_u16, ← Int.natCast_mul]; omega
  have wy : IntKind.u16.wrap ((b : Int) - (z : Int)) = (y : Int) := by rw [IntKind.wrap_u16, ← hy]; omega
  clear hx hy hz
  have c3 := h.c3
  have f3 := h.fr 3
  have h1 := heap_setCell_same w p 3 _ _ (.int .u16 (x : Int)) h
  have h1' : RollAt (w.setCell ⟨p, 3, none⟩ (.int .u16 (x : Int))) p l n k x b := h1
  have k1 := (Kept.refl (· = p) w).setCell (p := ⟨p, 3, none⟩) rfl (.int .u16 (x : Int))
  have c4 := h1'.c4
  have f4 := h1'.fr 4
  have h2 := Lib.hid (heap_setCell_same _ p 4 _ _ (.int .u16 (y : Int)) h1')
  have k2 := Lib.hid (k1.setCell (p := ⟨p, 4, none⟩) rfl (.int .u16 (y : Int)))
  clear h1 h1' k1 h
  go_enter Try.func36, Try.ntmps36
  go_wp2
  go_end0
  exact ⟨rfl, h2.out, k2.out⟩

/-- A window over a text, its sum being that of what lies in it. -/
def RollOn (w : World) (p : Nat) (l : List UInt8) (n k : Nat) : Prop := RollAt w p l n k (lo (win l n k)) (hi (win l n k))
theorem RollOn.kept {w w' : World} {p n k : Nat} {l : List UInt8} {M : Nat → Prop} (h : RollOn w p l n k) (hk : Kept M w w') (hp : ¬ M p) : RollOn w' p l n k := hk.old h hp

theorem win_step (l : List UInt8) (n k : Nat) (h : k + n < l.length) (hn : 0 < n) : ∃ x y : Nat, (((lo (win l n k) : Nat) : Int) - ((l[k]'(by omega)).toNat : Int)) % 65536 = (x : Int) ∧ (((hi (win l n k) : Nat) : Int) - ((n * (l[k]'(by omega)).toNat : Nat) : Int)) % 65536 = (y : Int) ∧ x < 65536 ∧ y < 65536 ∧
    (x + (l[k + n]'h).toNat) % 65536 = lo (win l n (k + 1)) ∧ (y + (x + (l[k + n]'h).toNat) % 65536) % 65536 = hi (win l n (k + 1)) := by
  have h1 := win_lo l n k h hn
  have h2 := win_hi l n k h hn
  refine ⟨((((lo (win l n k) : Nat) : Int) - ((l[k]'(by omega)).toNat : Int)) % 65536).toNat, ((((hi (win l n k) : Nat) : Int) - ((n * (l[k]'(by omega)).toNat : Nat) : Int)) % 65536).toNat, ?_, ?_, ?_, ?_, ?_, ?_⟩
  · omega
  · omega
  · omega
  · omega
  · omega
  · omega

theorem Kept.of_drewN {M : Nat → Prop} (w : World) (m : Nat) : Kept M w (w.drewN m) := ⟨rfl, rfl, rfl, Nat.le_refl _, fun _ _ _ => rfl⟩
set_option maxRecDepth 100000 in
set_option maxHeartbeats 1000000 in
theorem next_step (p n k : Nat) (l : List UInt8) (w : World) (h : RollOn w p l n k) (hn : 0 < n) (hn2 : n ≤ 1024) (hlt : k + n < l.length) (hl : l.length ≤ 140737488351232) :
    Calls Try.prog 17 #[rollP p] w fun e w' => e = .returned (.bool true) ∧ RollOn w' p l n (k + 1) ∧ Kept (· = p) w w' := by
  have a1 := lo_lt (win l n k)
  have a2 := hi_lt (win l n k)
  obtain ⟨x, y, hx, hy, x1, y1, e1, e2⟩ := win_step l n k hlt hn
  unfold RollOn
  obtain ⟨j, hj, hlj⟩ : ∃ j, j = k + n ∧ j < l.length := ⟨_, rfl, hlt⟩
  have f1 : (x + (l[j]'hlj).toNat) % 65536 = lo (win l n (k + 1)) := by subst hj; exact e1
  have f2 : (y + (x + (l[j]'hlj).toNat) % 65536) % 65536 = hi (win l n (k + 1)) := by subst hj; exact e2
  rw [← f2, ← f1]
  clear e1 e2 f1 f2
  have hk1 : k < l.length := by omega
  have L := Lib.hid (show (⟨l.toArray⟩ : ByteArray).size = l.length from rfl)
  have h0 : RollAt w p l n k (lo (win l n k)) (hi (win l n k)) := h
  clear h
  have R := Lib.hid (ready_any p n k _ _ l w h0 hn)
  obtain ⟨d, hd⟩ : ∃ d, l.length = k + n + (d + 1) := ⟨l.length - (k + n) - 1, by omega⟩
  have LE := Lib.hid (left_any p n k _ _ (d + 1) l w h0 hd hl)
  clear hd
  have G := fun w' h' => Lib.hid (letGo_any p n k _ _ (l[k]'(by omega)).toNat x y l w' a1 a2 (UInt8.toNat_lt _) hn2 hx hy h')
  have wj : IntKind.i64.wrap ((k : Int) + (n : Int)) = (j : Int) := by rw [IntKind.wrap_i64]; omega
  have T := fun w' h' => Lib.hid (takeInR_any p n k x y (l[j]'hlj).toNat l w' x1 y1 (UInt8.toNat_lt _) h')
  generalize lo (win l n k) = a at *
  generalize hi (win l n k) = b at *
  clear hx hy hj hlt
  have H : Hid (RollAt w p l n k a b) := Lib.hid h0
  clear h0
  go_enter Try.func17, Try.ntmps17
  go_wp2_with fail
  refine R.out.mono ?_
  rintro e w' ⟨rfl, rfl⟩
  go_wp2_with fail
  refine LE.out.mono ?_
  rintro e w' ⟨m, rfl, rfl⟩
  clear R LE
  go_wp2
  have H1 : Hid (RollAt (w.drewN m) p l n k a b) := Lib.hid H.out
  have K1 : Hid (Kept (· = p) w (w.drewN m)) := Lib.hid (Kept.of_drewN w m)
  generalize w.drewN m = w1 at *
  have c0 := H1.out.c0
  have c1 := H1.out.c1
  have c2 := H1.out.c2
  have H1d : Hid (RollAt w1.drew p l n k a b) := Lib.hid H1.out
  have K1d := Lib.hid K1.out.drew
  clear H K1
  go_still_tail 16, (by kernel_rfl)
  change wpList _ _ _ _ _ w1.drew
  clear c0 c1 c2
  generalize w1.drew = w2 at *
  go_wp2_with fail
  refine (G _ H1d.out).out.mono ?_
  rintro e w3 ⟨rfl, h3, k3⟩
  have K3 := Lib.hid (K1d.out.trans k3)
  clear K1d k3 G H1 H1d
  go_wp2
  have c0 := h3.c0
  have c1 := h3.c1
  have c2 := h3.c2
  have H3d : Hid (RollAt w3.drew p l n k x y) := Lib.hid h3
  have K3d := Lib.hid K3.out.drew
  clear h3 K3
  go_still_tail 17, (by kernel_rfl)
  change wpList _ _ _ _ _ w3.drew
  clear c0 c1 c2
  generalize w3.drew = w4 at *
  go_wp2_with fail
  refine (T _ H3d.out).out.mono ?_
  rintro e w5 ⟨rfl, h5, k5⟩
  have K5 := Lib.hid (K3d.out.trans k5)
  clear K3d k5 T H3d
  have c2 := h5.c2
  have f2 := h5.fr 2
  have h6 := Lib.hid (heap_setCell_same w5 p 2 _ _ (.int .i64 ((k + 1 : Nat) : Int)) h5)
  have K6 := Lib.hid (K5.out.setCell (p := ⟨p, 2, none⟩) rfl (.int .i64 ((k + 1 : Nat) : Int)))
  clear h5 K5
  go_wp2
  go_ret
  exact ⟨rfl, h6.out, K6.out⟩
end Go.Proofs.Ytmpoflnigenilaa
