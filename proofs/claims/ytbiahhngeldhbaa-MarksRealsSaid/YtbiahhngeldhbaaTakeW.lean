/- The walk of takeIn: a state goes on by a block. -/
import Derived.Test.YtbiahhngeldhbaaSpreadW
import Derived.Test.YtbiahhngeldhbaaBookW
set_option linter.unusedVariables false
namespace Go.Proofs.Ytbiahhngeldhbaa
open Go.RowKit

/-- The block of what is the same for all texts: what a state begins with, and what the rounds add. -/
def SumsAt (w : World) (kb : Nat) (H K : List Nat) : Prop := w.heap[kb]? = some (.cells (arrW (H ++ K)) 63 (0, 0))
theorem SumsAt.add {w : World} {kb : Nat} {H K : List Nat} (h : SumsAt w kb H K) (hH : H.length = 8) (k : Nat) (hk : k < K.length) : w.cell? ⟨kb, 8 + k, none⟩ = some (.int .u32 ((K[k] : Nat) : Int)) := by
  rw [cell_of_row _ _ _ _ _ _ h]
  refine arrW_get _ _ _ ?_
  rw [List.getElem?_append_right (by omega), hH, Nat.add_sub_cancel_left, List.getElem?_eq_getElem hk]
/-- A state in a block. -/
def StAt (w : World) (nb : Nat) (l : List Nat) : Prop := w.heap[nb]? = some (.cells (arrW l) 60 (0, 0))
theorem StAt.cell {w : World} {nb : Nat} {l : List Nat} (h : StAt w nb l) (k x : Nat) (hx : l[k]? = some x) : w.cell? ⟨nb, k, none⟩ = some (.int .u32 (x : Int)) := by
  rw [cell_of_row _ _ _ _ _ _ h]
  exact arrW_get _ _ _ hx

/-! ### The last step: each word grows by its own -/
def mixL (s v : List Nat) (k : Nat) : List Nat := List.zipWith (fun x y => low32 (x + y)) (s.take k) (v.take k) ++ s.drop k
theorem mixL_zero (s v : List Nat) : mixL s v 0 = s := by simp [mixL]
theorem mixL_get (s v : List Nat) (k : Nat) (hs : s.length = 8) (hv : v.length = 8) (hk : k < 8) : (mixL s v k)[k]? = some (s[k]'(by omega)) := by
  unfold mixL
  rw [List.getElem?_append_right (by simp; omega)]
  simp only [List.length_zipWith, List.length_take, List.getElem?_drop]
  rw [show k + (k - min (min k s.length) (min k v.length)) = k by omega, List.getElem?_eq_getElem]
theorem mixL_set (s v : List Nat) (k : Nat) (hs : s.length = 8) (hv : v.length = 8) (hk : k < 8) : (mixL s v k).set k (low32 (s[k]'(by omega) + v[k]'(by omega))) = mixL s v (k + 1) := by
  unfold mixL
  rw [List.set_append_right _ _ (by simp; omega), List.length_zipWith, List.length_take, List.length_take, show k - min (min k s.length) (min k v.length) = 0 by omega]
  rw [List.take_succ_eq_append_getElem (show k < s.length by omega), List.take_succ_eq_append_getElem (show k < v.length by omega), List.zipWith_append (by simp; omega)]
  have e := List.drop_eq_getElem_cons (show k < s.length by omega)
  rw [e, List.set_cons_zero]
  simp
theorem mixL_all (s v : St) : mixL s.toL v.toL 8 = (addSt s v).toL := rfl

theorem xor_ones (e : Nat) (he : e < 4294967296) : 4294967295 ^^^ e = 4294967295 - e := by
  have h := congrArg BitVec.toNat (BitVec.allOnes_xor (x := BitVec.ofNat 32 e))
  rw [BitVec.toNat_xor, BitVec.toNat_not, BitVec.toNat_allOnes, BitVec.toNat_ofNat, Nat.mod_eq_of_lt (by omega)] at h
  exact h
theorem u32_not_of {e ne : Nat} (he : e < 4294967296) (h : 4294967295 - e = ne) : bits .xor .u32 IntKind.u32.max (e : Int) = (ne : Int) := by rw [u32_turn e he, xor_ones e he, h]
theorem u32_and_of {a b c : Nat} (ha : a < 4294967296) (hb : b < 4294967296) (h : a &&& b = c) : bits .and .u32 (a : Int) (b : Int) = (c : Int) := by rw [u32_and_nat a b ha hb, h]
theorem and_lt32 {a b : Nat} (hb : b < 4294967296) : a &&& b < 4294967296 := Nat.and_lt_two_pow (n := 32) _ hb
theorem u32_sum_of {a b c : Nat} (h : (a + b) % 4294967296 = c) : ((a : Int) + (b : Int)) % 4294967296 = (c : Int) := by omega

theorem u32_cast {x y : Nat} (h : x = y) : Value.int .u32 (x : Int) = Value.int .u32 (y : Int) := by rw [h]
/-- One round, by the numbers that the program reckons. -/
theorem rnd_of (s : St) (kk ww x1 S1 m1 an ne a2 c1 m2 m3 t y1 S0 ab ac y2 bc mj u na nn : Nat) (hx1 : rotr s.e 6 ^^^ rotr s.e 11 = x1) (hS1 : x1 ^^^ rotr s.e 25 = S1) (hm1 : (s.h + S1) % 4294967296 = m1) (han : s.e &&& s.f = an) (hne : 4294967295 - s.e = ne)
    (ha2 : ne &&& s.g = a2) (hc1 : an ^^^ a2 = c1) (hm2 : (m1 + c1) % 4294967296 = m2) (hm3 : (m2 + kk) % 4294967296 = m3) (ht : (m3 + ww) % 4294967296 = t) (hy1 : rotr s.a 2 ^^^ rotr s.a 13 = y1) (hS0 : y1 ^^^ rotr s.a 22 = S0) (hab : s.a &&& s.b = ab)
    (hac : s.a &&& s.c = ac) (hy2 : ab ^^^ ac = y2) (hbc : s.b &&& s.c = bc) (hmj : y2 ^^^ bc = mj) (hu : (S0 + mj) % 4294967296 = u) (hna : (t + u) % 4294967296 = na) (hnn : (s.d + t) % 4294967296 = nn) :
    rnd s kk ww = ⟨na, s.a, s.b, s.c, nn, s.e, s.f, s.g⟩ := by
  unfold rnd low32 tS uS Sg1 Sg0 chS majS
  rw [hx1, hS1, han, hne, ha2, hc1, hy1, hS0, hab, hac, hy2, hbc, hmj]
  congr 1 <;> omega
theorem index_at (x0 x1 x2 x3 x4 x5 x6 x7 : Nat) (k : Nat) (hk : k < 8) (y : Nat) (hy : [x0, x1, x2, x3, x4, x5, x6, x7][k]? = some y) (w : World) :
    (Instr.index 59 (.agg #[.int .u32 x0, .int .u32 x1, .int .u32 x2, .int .u32 x3, .int .u32 x4, .int .u32 x5, .int .u32 x6, .int .u32 x7]) (.int .i64 (k : Int))).run Try.prog w = .ok (.int .u32 (y : Int)) w := by
  have key : ∀ (k : Nat) (y : Nat), k < 8 → [x0, x1, x2, x3, x4, x5, x6, x7][k]? = some y → (Instr.index 59 (.agg #[.int .u32 x0, .int .u32 x1, .int .u32 x2, .int .u32 x3, .int .u32 x4, .int .u32 x5, .int .u32 x6, .int .u32 x7]) (.int .i64 (k : Int))).run Try.prog w = .ok (.int .u32 (y : Int)) w
    | 0, y, _, h => by
      have e : x0 = y := by simpa using h
      subst e
      rfl
    | 1, y, _, h => by
      have e : x1 = y := by simpa using h
      subst e
      rfl
    | 2, y, _, h => by
      have e : x2 = y := by simpa using h
      subst e
      rfl
    | 3, y, _, h => by
      have e : x3 = y := by simpa using h
      subst e
      rfl
    | 4, y, _, h => by
      have e : x4 = y := by simpa using h
      subst e
      rfl
    | 5, y, _, h => by
      have e : x5 = y := by simpa using h
      subst e
      rfl
    | 6, y, _, h => by
      have e : x6 = y := by simpa using h
      subst e
      rfl
    | 7, y, _, h => by
      have e : x7 = y := by simpa using h
      subst e
      rfl
    | k + 8, y, hk, h => by omega
  exact key k y hk hy

set_option maxRecDepth 100000 in
set_option maxHeartbeats 8000000 in
theorem takeIn_any (kb nb b : Nat) (H K : List Nat) (s : St) (l : List UInt8) (w : World) (hH : H.length = 8) (hK : K.length = 64) (hKlt : ∀ x ∈ K, x < 4294967296) (hs : s.ok) (hl : l.length = 64) (hk : SumsAt w kb H K) (hst : StAt w nb s.toL) (hb : BlockAt w b l) :
    Calls Try.prog 38 #[.pointer (some ⟨kb, 0, none⟩), .pointer (some ⟨nb, 0, none⟩), .pointer (some ⟨b, 0, none⟩)] w fun e w' => e = .returned (.tuple #[]) ∧ StAt w' nb (blkS K s l).toL ∧ Kept (· = nb) w w' := by
  have SP := Lib.hid (spread_any b l w hl hb)
  have HK := Lib.hid hk
  have HST := Lib.hid hst
  have hlw := wordsOf_length l
  have hWlt := wordsOf_lt l
  obtain ⟨Z, hZ, hZs⟩ : ∃ Z : Array Value, Z = #[.int .u32 0, .int .u32 0, .int .u32 0, .int .u32 0, .int .u32 0, .int .u32 0, .int .u32 0, .int .u32 0, .int .u32 0, .int .u32 0, .int .u32 0, .int .u32 0, .int .u32 0, .int .u32 0, .int .u32 0, .int .u32 0, .int .u32 0, .int .u32 0, .int .u32 0, .int .u32 0, .int .u32 0, .int .u32 0, .int .u32 0, .int .u32 0, .int .u32 0, .int .u32 0, .int .u32 0, .int .u32 0, .int .u32 0, .int .u32 0, .int .u32 0, .int .u32 0, .int .u32 0, .int .u32 0, .int .u32 0, .int .u32 0, .int .u32 0, .int .u32 0, .int .u32 0, .int .u32 0, .int .u32 0, .int .u32 0, .int .u32 0, .int .u32 0, .int .u32 0, .int .u32 0, .int .u32 0, .int .u32 0, .int .u32 0, .int .u32 0, .int .u32 0, .int .u32 0, .int .u32 0, .int .u32 0, .int .u32 0, .int .u32 0, .int .u32 0, .int .u32 0, .int .u32 0, .int .u32 0, .int .u32 0, .int .u32 0, .int .u32 0, .int .u32 0] ∧ Z.size = 64 := ⟨_, rfl, rfl⟩
  have HZ := Lib.hid hZ; clear hZ
  have HZs := Lib.hid hZs; clear hZs
  obtain ⟨W, hW⟩ : ∃ W, wordsOf l = W := ⟨_, rfl⟩
  have hBS : Hid ((blkS K s l).toL = (addSt s (rnds K W s 64)).toL) := Lib.hid (by rw [← hW]; rfl)
  rw [hW] at hlw hWlt SP
  obtain ⟨C, hC⟩ : ∃ C, arrW W = C := ⟨_, rfl⟩
  have hCs : C.size = 64 := by rw [← hC, arrW_size, hlw]
  have hC1 := arrW_one W
  rw [hC] at SP hC1
  have HCs := Lib.hid hCs
  have HC1 := Lib.hid hC1
  have HC := Lib.hid hC
  have HWlt := Lib.hid hWlt
  have Hlw := Lib.hid hlw
  have HKlt := Lib.hid hKlt
  have HHl := Lib.hid hH
  have HKl := Lib.hid hK
  have HS := Lib.hid hs
  clear hk hst hb hl hW hC hCs hC1 hWlt hlw hKlt hH hK hs
  go_enter Try.func38, Try.ntmps38
  go_wp2_with fail
  refine SP.out.mono ?_
  rintro e w1 ⟨rfl, hb1⟩
  have hnew : (w1.alloc (.cells Z 61)).heap[w1.heap.size]? = some (.cells Z 61) := heap_alloc_new _ _
  have HNEW := Lib.hid hnew; clear hnew
  go_wp2_with (first
    | (rw [← HZ.out]; (with_reducible refine wpList_store_row rfl 61 (.tmp 6) (.tmp 21) rfl w1.heap.size C rfl rfl _ Z HNEW.out (by rw [HCs.out]; exact info_w64) (by rw [HCs.out]; exact HZs.out) HC1.out ?_)))
  have WF := Lib.hid (show ∀ m : Nat, SumsAt ((((w1.alloc (.cells Z 61)).setRow w1.heap.size C)).drewN m) kb H K ∧ StAt ((((w1.alloc (.cells Z 61)).setRow w1.heap.size C)).drewN m) nb s.toL ∧
      ((((w1.alloc (.cells Z 61)).setRow w1.heap.size C)).drewN m).heap[w1.heap.size]? = some (.cells (arrW W) 61 (0, 0)) ∧ Below w.heap.size w ((((w1.alloc (.cells Z 61)).setRow w1.heap.size C)).drewN m) from fun m => by
    have b2 : Below w.heap.size w ((((w1.alloc (.cells Z 61)).setRow w1.heap.size C)).drewN m) := Below_drewN (Below_setRow (hb1.alloc hb1.size _) hb1.size C) m
    refine ⟨(b2.block kb (Array.getElem?_eq_some_iff.1 HK.out).1).trans HK.out, (b2.block nb (Array.getElem?_eq_some_iff.1 HST.out).1).trans HST.out, ?_, b2⟩
    rw [HC.out]
    exact setRow_heap _ _ _ _ _ _ HNEW.out)
  obtain ⟨q, hq⟩ : ∃ q, q = w1.heap.size := ⟨_, rfl⟩
  rw [← hq] at WF
  go_frame
  rw [← hq]
  generalize (w1.alloc (.cells Z 61)).setRow q C = W2 at *
  clear hb1 HNEW hq
  have n0 := (WF.out 0).2.1.cell 0 s.a rfl
  have n1 := (WF.out 0).2.1.cell 1 s.b rfl
  have n2 := (WF.out 0).2.1.cell 2 s.c rfl
  have n3 := (WF.out 0).2.1.cell 3 s.d rfl
  have n4 := (WF.out 0).2.1.cell 4 s.e rfl
  have n5 := (WF.out 0).2.1.cell 5 s.f rfl
  have n6 := (WF.out 0).2.1.cell 6 s.g rfl
  have n7 := (WF.out 0).2.1.cell 7 s.h rfl
  rw [World.drewN_zero] at n0 n1 n2 n3 n4 n5 n6 n7
  go_quiet (fail)
  go_wp2
  go_quiet (fail)
  go_wp2
  clear n0 n1 n2 n3 n4 n5 n6 n7
  go_loopw [7, 8, 9, 10, 11, 12, 13, 14, 54] (fun a b c d e f g h i wr => ∃ k m : Nat, k ≤ 64 ∧ i = .int .i64 k ∧ a = .int .u32 ((rnds K W s k).a : Nat) ∧ b = .int .u32 ((rnds K W s k).b : Nat) ∧ c = .int .u32 ((rnds K W s k).c : Nat) ∧ d = .int .u32 ((rnds K W s k).d : Nat) ∧
      e = .int .u32 ((rnds K W s k).e : Nat) ∧ f = .int .u32 ((rnds K W s k).f : Nat) ∧ g = .int .u32 ((rnds K W s k).g : Nat) ∧ h = .int .u32 ((rnds K W s k).h : Nat) ∧ wr = W2.drewN m) (fun _ _ _ _ _ _ _ _ i _ => 64 - (intOf i).toNat)
  case atStart => exact ⟨0, _, by omega, rfl, rfl, rfl, rfl, rfl, rfl, rfl, rfl, rfl, World.drewN_drewN _ _ _⟩
  case round =>
    obtain ⟨k, m, hk, rfl, rfl, rfl, rfl, rfl, rfl, rfl, rfl, rfl, rfl⟩ := hrel
    have hok := rnds_ok (K := K) (W := W) HS.out k
    have HR := Lib.hid (show rnds K W s (k + 1) = rnd (rnds K W s k) (K.getD k 0) (W.getD k 0) from rfl)
    by_cases hlt : k < 64
    · have ck := (WF.out m).1.add HHl.out k (by rw [HKl.out]; exact hlt)
      have cw : (W2.drewN m).cell? ⟨q, k, none⟩ = some (.int .u32 ((W[k]'(by rw [Hlw.out]; exact hlt) : Nat) : Int)) := by
        rw [cell_of_row _ _ _ _ _ _ (WF.out m).2.2.1]
        exact arrW_get _ _ _ (List.getElem?_eq_getElem _)
      have kl := HKlt.out _ (List.getElem_mem (show k < K.length by rw [HKl.out]; exact hlt))
      have wl := HWlt.out _ (List.getElem_mem (show k < W.length by rw [Hlw.out]; exact hlt))
      rw [show K.getD k 0 = K[k]'(by rw [HKl.out]; exact hlt) by simp [List.getD_eq_getElem?_getD, HKl.out, hlt], show W.getD k 0 = W[k]'(by rw [Hlw.out]; exact hlt) by simp [List.getD_eq_getElem?_getD, Hlw.out, hlt]] at HR
      generalize K[k]'(by rw [HKl.out]; exact hlt) = kk at *
      generalize W[k]'(by rw [Hlw.out]; exact hlt) = ww at *
      obtain ⟨s', hs'⟩ : ∃ s', rnds K W s k = s' := ⟨_, rfl⟩
      rw [hs'] at hok HR ⊢
      clear hs'
      obtain ⟨la, lb, lc, ld, le, lf, lg, lh⟩ := hok
      have R6 : ∀ w' : World, Hid (Calls Try.prog 45 #[.int .u32 (s'.e : Int), .int .i64 6] w' fun e w'' => e = .returned (.int .u32 (rotr s'.e 6 : Nat)) ∧ w' = w'') := fun w' => Lib.hid (right_any s'.e 6 w' le (by decide) (by decide))
      have R11 : ∀ w' : World, Hid (Calls Try.prog 45 #[.int .u32 (s'.e : Int), .int .i64 11] w' fun e w'' => e = .returned (.int .u32 (rotr s'.e 11 : Nat)) ∧ w' = w'') := fun w' => Lib.hid (right_any s'.e 11 w' le (by decide) (by decide))
      have R25 : ∀ w' : World, Hid (Calls Try.prog 45 #[.int .u32 (s'.e : Int), .int .i64 25] w' fun e w'' => e = .returned (.int .u32 (rotr s'.e 25 : Nat)) ∧ w' = w'') := fun w' => Lib.hid (right_any s'.e 25 w' le (by decide) (by decide))
      have R2 : ∀ w' : World, Hid (Calls Try.prog 45 #[.int .u32 (s'.a : Int), .int .i64 2] w' fun e w'' => e = .returned (.int .u32 (rotr s'.a 2 : Nat)) ∧ w' = w'') := fun w' => Lib.hid (right_any s'.a 2 w' la (by decide) (by decide))
      have R13 : ∀ w' : World, Hid (Calls Try.prog 45 #[.int .u32 (s'.a : Int), .int .i64 13] w' fun e w'' => e = .returned (.int .u32 (rotr s'.a 13 : Nat)) ∧ w' = w'') := fun w' => Lib.hid (right_any s'.a 13 w' la (by decide) (by decide))
      have R22 : ∀ w' : World, Hid (Calls Try.prog 45 #[.int .u32 (s'.a : Int), .int .i64 22] w' fun e w'' => e = .returned (.int .u32 (rotr s'.a 22 : Nat)) ∧ w' = w'') := fun w' => Lib.hid (right_any s'.a 22 w' la (by decide) (by decide))
      obtain ⟨x1, hx1⟩ : ∃ x, rotr s'.e 6 ^^^ rotr s'.e 11 = x := ⟨_, rfl⟩
      obtain ⟨S1, hS1⟩ : ∃ x, x1 ^^^ rotr s'.e 25 = x := ⟨_, rfl⟩
      obtain ⟨m1, hm1⟩ : ∃ x, (s'.h + S1) % 4294967296 = x := ⟨_, rfl⟩
      obtain ⟨an, han⟩ : ∃ x, s'.e &&& s'.f = x := ⟨_, rfl⟩
      obtain ⟨ne, hne⟩ : ∃ x, 4294967295 - s'.e = x := ⟨_, rfl⟩
      obtain ⟨a2, ha2⟩ : ∃ x, ne &&& s'.g = x := ⟨_, rfl⟩
      obtain ⟨c1, hc1⟩ : ∃ x, an ^^^ a2 = x := ⟨_, rfl⟩
      obtain ⟨m2, hm2⟩ : ∃ x, (m1 + c1) % 4294967296 = x := ⟨_, rfl⟩
      obtain ⟨m3, hm3⟩ : ∃ x, (m2 + kk) % 4294967296 = x := ⟨_, rfl⟩
      obtain ⟨t, ht⟩ : ∃ x, (m3 + ww) % 4294967296 = x := ⟨_, rfl⟩
      obtain ⟨y1, hy1⟩ : ∃ x, rotr s'.a 2 ^^^ rotr s'.a 13 = x := ⟨_, rfl⟩
      obtain ⟨S0, hS0⟩ : ∃ x, y1 ^^^ rotr s'.a 22 = x := ⟨_, rfl⟩
      obtain ⟨ab, hab⟩ : ∃ x, s'.a &&& s'.b = x := ⟨_, rfl⟩
      obtain ⟨ac, hac⟩ : ∃ x, s'.a &&& s'.c = x := ⟨_, rfl⟩
      obtain ⟨y2, hy2⟩ : ∃ x, ab ^^^ ac = x := ⟨_, rfl⟩
      obtain ⟨bc, hbc⟩ : ∃ x, s'.b &&& s'.c = x := ⟨_, rfl⟩
      obtain ⟨mj, hmj⟩ : ∃ x, y2 ^^^ bc = x := ⟨_, rfl⟩
      obtain ⟨u, hu⟩ : ∃ x, (S0 + mj) % 4294967296 = x := ⟨_, rfl⟩
      obtain ⟨na, hna⟩ : ∃ x, (t + u) % 4294967296 = x := ⟨_, rfl⟩
      obtain ⟨nn, hnn⟩ : ∃ x, (s'.d + t) % 4294967296 = x := ⟨_, rfl⟩
      have RO := rnd_of s' kk ww x1 S1 m1 an ne a2 c1 m2 m3 t y1 S0 ab ac y2 bc mj u na nn hx1 hS1 hm1 han hne ha2 hc1 hm2 hm3 ht hy1 hS0 hab hac hy2 hbc hmj hu hna hnn
      have HR2 := Lib.hid (HR.out.trans RO)
      have l6 := rotr_lt s'.e 6 le
      have l11 := rotr_lt s'.e 11 le
      have l25 := rotr_lt s'.e 25 le
      have l2 := rotr_lt s'.a 2 la
      have l13 := rotr_lt s'.a 13 la
      have l22 := rotr_lt s'.a 22 la
      have X1 := u32_xor_of l6 l11 hx1
      have X2 := u32_xor_of (by rw [← hx1]; exact xor_lt32 l6 l11) l25 hS1
      have A1 := u32_add_of hm1
      have N1 := u32_and_of le lf han
      have N2 : bits .xor .u32 (if IntKind.u32.signed = true then -1 else IntKind.u32.max) (s'.e : Int) = (ne : Int) := u32_not_of le hne
      have N3 := u32_and_of (show ne < 4294967296 by omega) lg ha2
      have X3 := u32_xor_of (by rw [← han]; exact and_lt32 lf) (by rw [← ha2]; exact and_lt32 lg) hc1
      have A2 := u32_add_of hm2
      have A3 := u32_add_of hm3
      have A4 := u32_add_of ht
      have Y1 := u32_xor_of l2 l13 hy1
      have Y2 := u32_xor_of (by rw [← hy1]; exact xor_lt32 l2 l13) l22 hS0
      have M1 := u32_and_of la lb hab
      have M2 := u32_and_of la lc hac
      have lab : ab < 4294967296 := by rw [← hab]; exact and_lt32 lb
      have lac : ac < 4294967296 := by rw [← hac]; exact and_lt32 lc
      have Y3 := u32_xor_of lab lac hy2
      have M3 := u32_and_of lb lc hbc
      have Y4 := u32_xor_of (by rw [← hy2]; exact xor_lt32 lab lac) (by rw [← hbc]; exact and_lt32 lc) hmj
      have U := u32_sum_of hu
      have NA := u32_sum_of hna
      have NE := u32_sum_of hnn
      clear RO HR hx1 hS1 hm1 han hne ha2 hc1 hm2 hm3 ht hy1 hS0 hab hac hy2 hbc hmj hu hna hnn lab lac
      generalize rotr s'.e 6 = r6 at *
      generalize rotr s'.e 11 = r11 at *
      generalize rotr s'.e 25 = r25 at *
      generalize rotr s'.a 2 = r2 at *
      generalize rotr s'.a 13 = r13 at *
      generalize rotr s'.a 22 = r22 at *
      generalize s'.a = sa at *
      generalize s'.b = sb at *
      generalize s'.c = sc at *
      generalize s'.d = sd at *
      generalize s'.e = se at *
      generalize s'.f = sf at *
      generalize s'.g = sg at *
      generalize s'.h = sh at *
      have kq : (k : Int) < 64 := by omega
      have k0 : (0 : Int) ≤ (k : Int) := by omega
      generalize hw5 : W2.drewN m = w5 at *
      have HW5 := Lib.hid hw5; clear hw5
      go_wp2
      go_quiet ((first | (go_at_call 45; (with_reducible exact quiet_left (R6 _).out)) | (go_at_call 45; (with_reducible exact quiet_left (R11 _).out)) | (go_at_call 45; (with_reducible exact quiet_left (R25 _).out))))
      clear X1 X2 A1 N1 N2 N3 X3 A2 A3 A4 ck cw
      go_wp2_with fail
      refine (R2 _).out.mono ?_
      rintro e w' ⟨rfl, rfl⟩
      go_wp2_with fail
      refine (R13 _).out.mono ?_
      rintro e w' ⟨rfl, rfl⟩
      go_wp2_with fail
      refine (R22 _).out.mono ?_
      rintro e w' ⟨rfl, rfl⟩
      go_wp2
      go_roundw
      case rel =>
        refine ⟨k + 1, m + nq, Nat.succ_le_of_lt hlt, by go_num, ?_⟩
        rw [HR2.out]
        exact ⟨by rw [NA], rfl, rfl, rfl, by rw [NE], rfl, rfl, rfl, by rw [← HW5.out, World.drewN_drewN]⟩
      case measure => simp [intOf]; exact less64 k hlt
    · have hk64 : k = 64 := by omega
      have h64 : 64 ≤ k := by omega
      have hST := (WF.out m).2.1
      have hBel := (WF.out m).2.2.2
      have KP := Lib.hid (show Kept (· = nb) w (W2.drewN m) from Kept.new hBel _)
      rw [← hk64] at hBS
      clear HR hk hk64
      obtain ⟨v, hv⟩ : ∃ v, rnds K W s k = v := ⟨_, rfl⟩
      rw [hv] at hBS hok ⊢
      clear hv WF
      generalize W2.drewN m = w5 at *
      rw [← mixL_zero s.toL v.toL] at hST
      have HST5 := Lib.hid hST; clear hST hBel
      go_wp2
      go_loopw [129] (fun i wr => ∃ k : Nat, k ≤ 8 ∧ i = .int .i64 k ∧ StAt wr nb (mixL s.toL v.toL k) ∧ Kept (· = nb) w wr) (fun i _ => 8 - (intOf i).toNat)
      case atStart => exact ⟨0, by omega, rfl, HST5.out, KP.out⟩
      case round =>
        obtain ⟨k, hk, rfl, hst, hkp⟩ := hrel
        have Hst := Lib.hid hst
        by_cases hlt : k < 8
        · have hx := mixL_get s.toL v.toL k rfl rfl hlt
          have hc := hst.cell k _ hx
          have hfr := frozen_of_row wr nb k _ _ hst
          have hse := mixL_set s.toL v.toL k rfl rfl hlt
          have hy : v.toL[k]? = some (v.toL[k]'hlt) := List.getElem?_eq_getElem hlt
          generalize s.toL[k]'hlt = x at *
          generalize v.toL[k]'hlt = y at *
          have IDX := index_at v.a v.b v.c v.d v.e v.f v.g v.h k hlt y hy
          obtain ⟨z, hz⟩ : ∃ z, low32 (x + y) = z := ⟨_, rfl⟩
          have A := u32_add_of hz
          rw [hz] at hse
          have HSE := Lib.hid hse
          have kq : (k : Int) < 8 := by omega
          have k0 : (0 : Int) ≤ (k : Int) := by omega
          clear hx hse hy hz hst
          go_wp2
          go_still_tail 9, (by kernel_rfl)
          change wpList _ _ _ _ _ wr.drew
          go_wp2
          go_roundw
          case rel =>
            refine ⟨k + 1, Nat.succ_le_of_lt hlt, by go_num, ?_, (hkp.setCell (p := ⟨nb, k, none⟩) (by rfl) _).drew⟩
            show ((wr.setCell ⟨nb, k, none⟩ _).drew).heap[nb]? = _
            rw [← HSE.out, ← arrW_set]
            exact heap_setCell_same wr nb k _ _ _ Hst.out
          case measure => simp [intOf]; exact (by omega : 7 - k < 8 - k)
        · obtain rfl : k = 8 := by omega
          have hB := hBS.out
          rw [mixL_all, ← hB] at hst
          clear hB
          go_wp2
          go_end0
          exact ⟨rfl, hst, hkp⟩
end Go.Proofs.Ytbiahhngeldhbaa
