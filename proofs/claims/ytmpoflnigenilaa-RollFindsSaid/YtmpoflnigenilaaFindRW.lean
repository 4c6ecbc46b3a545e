/- The walk of the program's Find. -/
import Derived.Test.YtmpoflnigenilaaFindW
set_option linter.unusedVariables false
namespace Go.Proofs.Ytmpoflnigenilaa
open Go.RowKit

def atOf (w : World) (p : Nat) : Nat := match w.cell? ⟨p, 2, none⟩ with
  | some v => (intOf v).toNat
  | none => 0
theorem RollOn.atOf {w : World} {p n k : Nat} {l : List UInt8} (h : RollOn w p l n k) : atOf w p = k := by
  unfold Go.Proofs.Ytmpoflnigenilaa.atOf
  rw [RollAt.c2 h]
  simp [intOf]
def okOf : Value → Nat
  | .bool true => 1
  | _ => 0

set_option maxRecDepth 100000 in
theorem find_arg (l m : List UInt8) (w : World) (h : m.length < 1 ∨ m.length > 1024) :
    Calls Try.prog 24 #[.string ⟨l.toArray⟩, .string ⟨m.toArray⟩] w fun e w' => e = .returned (.tuple #[.slice none 0 0, .int .i64 1]) ∧ w = w' := by
  have I := fun w' => Lib.hid (isSize_no (m.length : Nat) w' (by omega))
  have L2 := Lib.hid (show (⟨m.toArray⟩ : ByteArray).size = m.length from rfl)
  clear h
  go_enter Try.func24, Try.ntmps24
  go_wp2_with fail
  refine (I _).out.mono ?_
  rintro e w' ⟨rfl, rfl⟩
  go_wp2
  go_ret2
  exact ⟨rfl, rfl⟩
set_option maxRecDepth 100000 in
set_option maxHeartbeats 1000000 in
theorem find_short (l m : List UInt8) (w : World) (hn : 1 ≤ m.length) (hn2 : m.length ≤ 1024) (h : l.length < m.length) :
    Calls Try.prog 24 #[.string ⟨l.toArray⟩, .string ⟨m.toArray⟩] w fun e w' => e = .returned (.tuple #[.slice none 0 0, .int .i64 0]) ∧ Below w.heap.size w w' := by
  have I := fun w' => Lib.hid (isSize_yes (m.length : Nat) w' (by omega) (by omega))
  have OF := fun w' => Lib.hid (of_any m w' (by omega))
  have O := fun w' => Lib.hid (over_short l m.length w' h)
  have L2 := Lib.hid (show (⟨m.toArray⟩ : ByteArray).size = m.length from rfl)
  clear h
  go_enter Try.func24, Try.ntmps24
  go_wp2_with fail
  refine (I _).out.mono ?_
  rintro e w' ⟨rfl, rfl⟩
  go_wp2_with fail
  refine (OF _).out.mono ?_
  rintro e w1 ⟨rfl, b1⟩
  go_wp2_with fail
  refine (O _).out.mono ?_
  rintro e w' ⟨rfl, hw'⟩
  obtain rfl := hw'
  have b2 := Lib.hid (b1.alloc b1.size (.cells #[.int .u16 (lo m : Nat), .int .u16 (hi m : Nat)] 47))
  go_wp2
  refine wp_loop_rounds 1 ?_
  rw [rounds_succ]
  go_wp2
  go_ret2
  exact ⟨rfl, b2.out⟩
set_option maxRecDepth 100000 in
set_option maxHeartbeats 4000000 in
theorem find_ok (l m : List UInt8) (w : World) (hn : 1 ≤ m.length) (hn2 : m.length ≤ 1024) (h : m.length ≤ l.length) (hl : l.length ≤ 10000) :
    Calls Try.prog 24 #[.string ⟨l.toArray⟩, .string ⟨m.toArray⟩] w fun e w' => ∃ v, e = .returned (.tuple #[v, .int .i64 0]) ∧ OwnL encN w' w.heap.size 3 v (findS l m) ∧ Below w.heap.size w w' := by
  have I := fun w' => Lib.hid (isSize_yes (m.length : Nat) w' (by omega) (by omega))
  have OF := fun w' => Lib.hid (of_any m w' (by omega))
  have O := fun w' => Lib.hid (over_ok l m.length w' h (by omega))
  have L2 := Lib.hid (show (⟨m.toArray⟩ : ByteArray).size = m.length from rfl)
  go_enter Try.func24, Try.ntmps24
  go_wp2_with fail
  refine (I _).out.mono ?_
  rintro e w' ⟨rfl, rfl⟩
  go_wp2_with fail
  refine (OF _).out.mono ?_
  rintro e w0 ⟨rfl, b0⟩
  go_wp2_with fail
  refine (O _).out.mono ?_
  rintro e w1 ⟨p, rfl, hr, hp, b1⟩
  have b01 := b0.alloc b0.size (.cells #[.int .u16 (lo m : Nat), .int .u16 (hi m : Nat)] 47)
  have HS : Hid (WeakAt w1 w0.heap.size (lo m) (hi m)) := Lib.hid ((b1.block w0.heap.size (by simp)).trans (heap_alloc_new _ _))
  have H1 := Lib.hid (On.mk hr (b01.trans (b1.mono b01.size)))
  have hpB : p < w1.heap.size := RollAt.lt hr
  have hsB : w0.heap.size < p := by
    have : w0.heap.size < (w0.alloc (.cells #[.int .u16 (lo m : Nat), .int .u16 (hi m : Nat)] 47)).heap.size := by simp
    omega
  obtain ⟨sb, hsb⟩ : ∃ sb, w0.heap.size = sb := ⟨_, rfl⟩
  have hwB : w.heap.size ≤ w1.heap.size := H1.out.below.size
  have hwp : w.heap.size ≤ p := by have := b0.size; omega
  obtain ⟨B, hB⟩ : ∃ B, w1.heap.size = B := ⟨_, rfl⟩
  rw [hsb] at hsB HS
  rw [hB] at hpB hwB
  clear I O OF hr b1 b01 b0 hp
  go_wp2
  clear hsb
  go_loopw [7, 9] (fun v ok wr => ∃ (xs : List Nat) (b : Bool), ok = .bool b ∧ B ≤ wr.heap.size ∧ OwnL encN wr B 3 v xs ∧ WeakAt wr sb (lo m) (hi m) ∧ Below w.heap.size w wr ∧
      ((b = true ∧ ∃ k, k + m.length ≤ l.length ∧ xs = findK l m k ∧ RollOn wr p l m.length k) ∨ (b = false ∧ xs = findS l m)))
    (fun _ ok wr => 2 * (l.length + 1 - atOf wr p) + okOf ok)
  case atStart => exact ⟨[], true, rfl, by omega, OwnL.nil _ _ _ _, HS.out, H1.out.below, .inl ⟨rfl, 0, by omega, rfl, H1.out.roll⟩⟩
  case round =>
    clear HS H1
    obtain ⟨xs, b, rfl, hBr, hown, hsum, hbel, hcase⟩ := hrel
    have Hown := Lib.hid hown; clear hown
    have Hsum := Lib.hid hsum; clear hsum
    have Hbel := Lib.hid hbel; clear hbel
    rcases hcase with ⟨rfl, k, hk, rfl, hr⟩ | ⟨rfl, rfl⟩
    · have Hr := Lib.hid hr; clear hr
      have HAT := Lib.hid (RollOn.atOf Hr.out)
      have YES := Lib.hid (findK_yes l m k)
      have NO := Lib.hid (findK_no l m k)
      have LEN := findK_length l m k
      have c0 : Hid (RollAt wr p l m.length k (lo (win l m.length k)) (hi (win l m.length k))) := Lib.hid Hr.out
      have IN := fun nq => Lib.hid (in_any p m.length k _ _ l (wr.drewN nq) Hr.out hk (by omega))
      by_cases heq : win l m.length k = m
      · have c3 := c0.out.c3
        have c4 := c0.out.c4
        have d0 : wr.cell? ⟨sb, 0, none⟩ = some (.int .u16 (lo m : Nat)) := by rw [cell_of_row _ _ _ _ _ _ Hsum.out]; rfl
        have d1 : wr.cell? ⟨sb, 1, none⟩ = some (.int .u16 (hi m : Nat)) := by rw [cell_of_row _ _ _ _ _ _ Hsum.out]; rfl
        have XS := Lib.hid (YES.out heq)
        rw [heq] at c3 c4 IN
        have q0 : ((lo m : Int) == (lo m : Int)) = true := by simp
        have q1 : ((hi m : Int) == (hi m : Int)) = true := by simp
        have hself : (m == m) = true := by simp
        clear heq YES NO c0
        go_wp2
        go_quiet (first | (go_at_call 38; (with_reducible exact quiet_some (IN _).out)))
        have Hown2 : Hid (OwnL encN (wr.drewN nq) B 3 u7 (findK l m k)) := Lib.hid (Hown.out.kept (Kept.of_drewN (M := fun _ => False) wr nq) (fun _ _ h => h))
        have Hsum2 : Hid (WeakAt (wr.drewN nq) sb (lo m) (hi m)) := Lib.hid Hsum.out
        have Hr2 : Hid (RollOn (wr.drewN nq) p l m.length k) := Lib.hid Hr.out
        have B2 := Lib.hid (Below_drewN Hbel.out nq)
        have hB2 : B ≤ (wr.drewN nq).heap.size := hBr
        clear IN c3 c4 d0 d1 Hown Hsum Hr Hbel hBr
        generalize wr.drewN nq = w2 at *
        have c2 := RollAt.c2 Hr2.out
        go_wp2_with (at_builtin; refine append_elem (enc := encN) (y := k) rfl _ _ 31 3 (.int .i64 0) 8 (by rfl) Try.underlying31 info_i64 rfl B _ _ rfl (by rfl) Hown2.out (by rfl) (by omega) (by unfold maxLen; omega) (by omega) ?_; intro v' w3 hown3 hb3 hk3)
        clear c2
        have Hown3 := Lib.hid hown3; clear hown3
        have Hr3 := Lib.hid (Hr2.out.kept (Kept.of_below hb3) (by omega))
        have Hsum3 := Lib.hid (Hsum2.out.kept (Kept.of_below hb3) (by omega))
        have B3 := Lib.hid (B2.out.trans (hb3.mono hwB))
        have hB3 : B ≤ w3.heap.size := Nat.le_trans hB2 hk3.size
        clear Hown2 Hr2 Hsum2 B2 hb3 hk3 hB2
        rw [← XS.out] at Hown3
        clear XS
        by_cases hlt : k + m.length < l.length
        · have NX := Lib.hid (next_step p m.length k l w3 Hr3.out hn hn2 hlt (by omega))
          go_wp2_with fail
          refine NX.out.mono ?_
          rintro e w4 ⟨rfl, hr4, k4⟩
          have Hown4 := Lib.hid (Hown3.out.kept k4 (fun j hj e => by omega))
          have Hsum4 := Lib.hid (Hsum3.out.kept k4 (by omega))
          have A4 := Lib.hid (RollOn.atOf hr4)
          go_wp2
          go_roundw
          case rel => exact ⟨_, true, rfl, Nat.le_trans hB3 k4.size, Hown4.out, Hsum4.out, B3.out.trans (k4.below B3.out.size (fun j hj => by omega)), .inl ⟨rfl, k + 1, by omega, rfl, hr4⟩⟩
          case measure =>
            show 2 * (l.length + 1 - atOf _ p) + 1 < 2 * (l.length + 1 - atOf _ p) + 1
            rw [HAT.out, A4.out]
            omega
        · have NX := Lib.hid (next_end p m.length k l w3 Hr3.out hn (by omega) (by omega))
          have FA := Lib.hid (show findK l m (k + 1) = findS l m by rw [← findK_all]; congr 1; omega)
          rw [FA.out] at Hown3
          go_wp2_with fail
          refine NX.out.mono ?_
          rintro e w4 ⟨rfl, mm, rfl⟩
          have A4 := Lib.hid (RollOn.atOf (show RollOn (w3.drewN mm) p l m.length k from Hr3.out))
          go_wp2
          go_roundw
          case rel => exact ⟨_, false, rfl, hB3, Hown3.out, Hsum3.out, Below_drewN B3.out mm, .inr ⟨rfl, rfl⟩⟩
          case measure =>
            show 2 * (l.length + 1 - atOf _ p) + 0 < 2 * (l.length + 1 - atOf _ p) + 1
            rw [HAT.out, A4.out]
            omega
      · by_cases hl1 : lo (win l m.length k) = lo m
        · by_cases hl2 : hi (win l m.length k) = hi m
          · have c3 := c0.out.c3
            have c4 := c0.out.c4
            have d0 : wr.cell? ⟨sb, 0, none⟩ = some (.int .u16 (lo m : Nat)) := by rw [cell_of_row _ _ _ _ _ _ Hsum.out]; rfl
            have d1 : wr.cell? ⟨sb, 1, none⟩ = some (.int .u16 (hi m : Nat)) := by rw [cell_of_row _ _ _ _ _ _ Hsum.out]; rfl
            have XS := Lib.hid (NO.out heq)
            rw [hl1] at c3
            rw [hl2] at c4
            have q0 : ((lo m : Int) == (lo m : Int)) = true := by simp
            have q1 : ((hi m : Int) == (hi m : Int)) = true := by simp
            have hne : (win l m.length k == m) = false := by simpa using heq
            clear heq YES NO c0 hl1 hl2
            go_wp2
            go_quiet (first | (go_at_call 38; (with_reducible exact quiet_some (IN _).out)))
            have Hown2 : Hid (OwnL encN (wr.drewN nq) B 3 u7 (findK l m k)) := Lib.hid (Hown.out.kept (Kept.of_drewN (M := fun _ => False) wr nq) (fun _ _ h => h))
            have Hsum2 : Hid (WeakAt (wr.drewN nq) sb (lo m) (hi m)) := Lib.hid Hsum.out
            have Hr2 : Hid (RollOn (wr.drewN nq) p l m.length k) := Lib.hid Hr.out
            have B2 := Lib.hid (Below_drewN Hbel.out nq)
            have hB2 : B ≤ (wr.drewN nq).heap.size := hBr
            clear IN c3 c4 d0 d1 Hown Hsum Hr Hbel hBr
            generalize wr.drewN nq = w2 at *
            rw [← XS.out] at Hown2
            have Hown3 := Hown2
            have Hr3 := Hr2
            have Hsum3 := Hsum2
            have B3 := B2
            have hB3 := hB2
            clear Hown2 Hr2 Hsum2 B2 hB2
            clear XS
            by_cases hlt : k + m.length < l.length
            · have NX := Lib.hid (next_step p m.length k l w2 Hr3.out hn hn2 hlt (by omega))
              go_wp2_with fail
              refine NX.out.mono ?_
              rintro e w4 ⟨rfl, hr4, k4⟩
              have Hown4 := Lib.hid (Hown3.out.kept k4 (fun j hj e => by omega))
              have Hsum4 := Lib.hid (Hsum3.out.kept k4 (by omega))
              have A4 := Lib.hid (RollOn.atOf hr4)
              go_wp2
              go_roundw
              case rel => exact ⟨_, true, rfl, Nat.le_trans hB3 k4.size, Hown4.out, Hsum4.out, B3.out.trans (k4.below B3.out.size (fun j hj => by omega)), .inl ⟨rfl, k + 1, by omega, rfl, hr4⟩⟩
              case measure =>
                show 2 * (l.length + 1 - atOf _ p) + 1 < 2 * (l.length + 1 - atOf _ p) + 1
                rw [HAT.out, A4.out]
                omega
            · have NX := Lib.hid (next_end p m.length k l w2 Hr3.out hn (by omega) (by omega))
              have FA := Lib.hid (show findK l m (k + 1) = findS l m by rw [← findK_all]; congr 1; omega)
              rw [FA.out] at Hown3
              go_wp2_with fail
              refine NX.out.mono ?_
              rintro e w4 ⟨rfl, mm, rfl⟩
              have A4 := Lib.hid (RollOn.atOf (show RollOn (w2.drewN mm) p l m.length k from Hr3.out))
              go_wp2
              go_roundw
              case rel => exact ⟨_, false, rfl, hB3, Hown3.out, Hsum3.out, Below_drewN B3.out mm, .inr ⟨rfl, rfl⟩⟩
              case measure =>
                show 2 * (l.length + 1 - atOf _ p) + 0 < 2 * (l.length + 1 - atOf _ p) + 1
                rw [HAT.out, A4.out]
                omega
          · have c3 := c0.out.c3
            have c4 := c0.out.c4
            have d0 : wr.cell? ⟨sb, 0, none⟩ = some (.int .u16 (lo m : Nat)) := by rw [cell_of_row _ _ _ _ _ _ Hsum.out]; rfl
            have d1 : wr.cell? ⟨sb, 1, none⟩ = some (.int .u16 (hi m : Nat)) := by rw [cell_of_row _ _ _ _ _ _ Hsum.out]; rfl
            have XS := Lib.hid (NO.out heq)
            have q0 : ((lo (win l m.length k) : Int) == (lo m : Int)) = true := by rw [hl1]; simp
            have q1 : ((hi (win l m.length k) : Int) == (hi m : Int)) = false := by simp; omega
            clear heq YES NO c0
            generalize lo (win l m.length k) = a1 at *
            generalize hi (win l m.length k) = a2 at *
            go_wp2
            go_quiet (fail)
            have Hown2 : Hid (OwnL encN (wr.drewN nq) B 3 u7 (findK l m k)) := Lib.hid (Hown.out.kept (Kept.of_drewN (M := fun _ => False) wr nq) (fun _ _ h => h))
            have Hsum2 : Hid (WeakAt (wr.drewN nq) sb (lo m) (hi m)) := Lib.hid Hsum.out
            have Hr2 : Hid (RollOn (wr.drewN nq) p l m.length k) := Lib.hid Hr.out
            have B2 := Lib.hid (Below_drewN Hbel.out nq)
            have hB2 : B ≤ (wr.drewN nq).heap.size := hBr
            clear IN c3 c4 d0 d1 Hown Hsum Hr Hbel hBr
            generalize wr.drewN nq = w2 at *
            rw [← XS.out] at Hown2
            have Hown3 := Hown2
            have Hr3 := Hr2
            have Hsum3 := Hsum2
            have B3 := B2
            have hB3 := hB2
            clear Hown2 Hr2 Hsum2 B2 hB2
            clear XS
            by_cases hlt : k + m.length < l.length
            · have NX := Lib.hid (next_step p m.length k l w2 Hr3.out hn hn2 hlt (by omega))
              go_wp2_with fail
              refine NX.out.mono ?_
              rintro e w4 ⟨rfl, hr4, k4⟩
              have Hown4 := Lib.hid (Hown3.out.kept k4 (fun j hj e => by omega))
              have Hsum4 := Lib.hid (Hsum3.out.kept k4 (by omega))
              have A4 := Lib.hid (RollOn.atOf hr4)
              go_wp2
              go_roundw
              case rel => exact ⟨_, true, rfl, Nat.le_trans hB3 k4.size, Hown4.out, Hsum4.out, B3.out.trans (k4.below B3.out.size (fun j hj => by omega)), .inl ⟨rfl, k + 1, by omega, rfl, hr4⟩⟩
              case measure =>
                show 2 * (l.length + 1 - atOf _ p) + 1 < 2 * (l.length + 1 - atOf _ p) + 1
                rw [HAT.out, A4.out]
                omega
            · have NX := Lib.hid (next_end p m.length k l w2 Hr3.out hn (by omega) (by omega))
              have FA := Lib.hid (show findK l m (k + 1) = findS l m by rw [← findK_all]; congr 1; omega)
              rw [FA.out] at Hown3
              go_wp2_with fail
              refine NX.out.mono ?_
              rintro e w4 ⟨rfl, mm, rfl⟩
              have A4 := Lib.hid (RollOn.atOf (show RollOn (w2.drewN mm) p l m.length k from Hr3.out))
              go_wp2
              go_roundw
              case rel => exact ⟨_, false, rfl, hB3, Hown3.out, Hsum3.out, Below_drewN B3.out mm, .inr ⟨rfl, rfl⟩⟩
              case measure =>
                show 2 * (l.length + 1 - atOf _ p) + 0 < 2 * (l.length + 1 - atOf _ p) + 1
                rw [HAT.out, A4.out]
                omega
        · have c3 := c0.out.c3
          have c4 := c0.out.c4
          have d0 : wr.cell? ⟨sb, 0, none⟩ = some (.int .u16 (lo m : Nat)) := by rw [cell_of_row _ _ _ _ _ _ Hsum.out]; rfl
          have d1 : wr.cell? ⟨sb, 1, none⟩ = some (.int .u16 (hi m : Nat)) := by rw [cell_of_row _ _ _ _ _ _ Hsum.out]; rfl
          have XS := Lib.hid (NO.out heq)
          have q0 : ((lo (win l m.length k) : Int) == (lo m : Int)) = false := by simp; omega
          clear heq YES NO c0
          generalize lo (win l m.length k) = a1 at *
          generalize hi (win l m.length k) = a2 at *
          go_wp2
          go_quiet (fail)
          have Hown2 : Hid (OwnL encN (wr.drewN nq) B 3 u7 (findK l m k)) := Lib.hid (Hown.out.kept (Kept.of_drewN (M := fun _ => False) wr nq) (fun _ _ h => h))
          have Hsum2 : Hid (WeakAt (wr.drewN nq) sb (lo m) (hi m)) := Lib.hid Hsum.out
          have Hr2 : Hid (RollOn (wr.drewN nq) p l m.length k) := Lib.hid Hr.out
          have B2 := Lib.hid (Below_drewN Hbel.out nq)
          have hB2 : B ≤ (wr.drewN nq).heap.size := hBr
          clear IN c3 c4 d0 d1 Hown Hsum Hr Hbel hBr
          generalize wr.drewN nq = w2 at *
          rw [← XS.out] at Hown2
          have Hown3 := Hown2
          have Hr3 := Hr2
          have Hsum3 := Hsum2
          have B3 := B2
          have hB3 := hB2
          clear Hown2 Hr2 Hsum2 B2 hB2
          clear XS
          by_cases hlt : k + m.length < l.length
          · have NX := Lib.hid (next_step p m.length k l w2 Hr3.out hn hn2 hlt (by omega))
            go_wp2_with fail
            refine NX.out.mono ?_
            rintro e w4 ⟨rfl, hr4, k4⟩
            have Hown4 := Lib.hid (Hown3.out.kept k4 (fun j hj e => by omega))
            have Hsum4 := Lib.hid (Hsum3.out.kept k4 (by omega))
            have A4 := Lib.hid (RollOn.atOf hr4)
            go_wp2
            go_roundw
            case rel => exact ⟨_, true, rfl, Nat.le_trans hB3 k4.size, Hown4.out, Hsum4.out, B3.out.trans (k4.below B3.out.size (fun j hj => by omega)), .inl ⟨rfl, k + 1, by omega, rfl, hr4⟩⟩
            case measure =>
              show 2 * (l.length + 1 - atOf _ p) + 1 < 2 * (l.length + 1 - atOf _ p) + 1
              rw [HAT.out, A4.out]
              omega
          · have NX := Lib.hid (next_end p m.length k l w2 Hr3.out hn (by omega) (by omega))
            have FA := Lib.hid (show findK l m (k + 1) = findS l m by rw [← findK_all]; congr 1; omega)
            rw [FA.out] at Hown3
            go_wp2_with fail
            refine NX.out.mono ?_
            rintro e w4 ⟨rfl, mm, rfl⟩
            have A4 := Lib.hid (RollOn.atOf (show RollOn (w2.drewN mm) p l m.length k from Hr3.out))
            go_wp2
            go_roundw
            case rel => exact ⟨_, false, rfl, hB3, Hown3.out, Hsum3.out, Below_drewN B3.out mm, .inr ⟨rfl, rfl⟩⟩
            case measure =>
              show 2 * (l.length + 1 - atOf _ p) + 0 < 2 * (l.length + 1 - atOf _ p) + 1
              rw [HAT.out, A4.out]
              omega
    · go_wp2
      go_ret2
      exact ⟨_, rfl, Hown.out.mono hwB, Hbel.out⟩
end Go.Proofs.Ytmpoflnigenilaa
