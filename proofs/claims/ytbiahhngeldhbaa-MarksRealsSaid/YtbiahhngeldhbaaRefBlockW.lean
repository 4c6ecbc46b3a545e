/- The walk of the document's block: a state goes on by a block of 64 bytes. -/
import Derived.Test.YtbiahhngeldhbaaRotW
import Derived.Test.YtbiahhngeldhbaaSpreadW
import Derived.Test.YtbiahhngeldhbaaTakeW
import Derived.Test.YtbiahhngeldhbaaRootsW
import Derived.Test.YtbiahhngeldhbaaQuietTail
import Derived.Test.YtbiahhngeldhbaaCells
set_option linter.unusedVariables false
namespace Go.Proofs.Ytbiahhngeldhbaa
open Go.RowKit

/-- The first k words of a block. -/
def wordsTo (l : List UInt8) (k : Nat) : List Nat := if k ≤ 16 then words16 l k else wordsN (words16 l 16) (k - 16)
theorem wordsTo_lo (l : List UInt8) (k : Nat) (h : k < 16) : wordsTo l (k + 1) = wordsTo l k ++ [wordB l k] := by
  unfold wordsTo
  rw [if_pos (by omega), if_pos (by omega)]
  rfl
theorem wordsTo_from (l : List UInt8) (k : Nat) : wordsTo l (16 + k) = wordsN (words16 l 16) k := by
  unfold wordsTo
  split
  · obtain rfl : k = 0 := by omega
    rfl
  · rw [Nat.add_sub_cancel_left]
theorem wordsTo_hi (l : List UInt8) (k : Nat) (h : 16 ≤ k) : wordsTo l (k + 1) = wordsTo l k ++ [nextW (wordsTo l k)] := by
  obtain ⟨j, rfl⟩ : ∃ j, k = 16 + j := ⟨k - 16, by omega⟩
  rw [Nat.add_assoc, wordsTo_from, wordsTo_from]
  rfl
theorem wordsTo_length (l : List UInt8) (k : Nat) : (wordsTo l k).length = k := by
  unfold wordsTo
  split
  · exact words16_length l k
  · rw [wordsN_length, words16_length]; omega
theorem wordsTo_lt (l : List UInt8) (k : Nat) : ∀ x ∈ wordsTo l k, x < 4294967296 := by
  unfold wordsTo
  split
  · exact words16_lt l k
  · exact wordsN_lt _ (words16_lt l 16) _
theorem wordsTo_all (l : List UInt8) : wordsTo l 64 = wordsOf l := wordsTo_from l 48
theorem i64_small (x : Nat) (h : x < 9223372036854775808) : IntKind.i64.wrap (x : Int) = (x : Int) := by rw [IntWalk.i64_in _ (by omega)]
theorem i64_sum {a b c : Nat} (h : a + b = c) (hc : c < 9223372036854775808) : IntKind.i64.wrap ((a : Int) + (b : Int)) = (c : Int) := by rw [IntWalk.i64_in _ (by omega)]; omega
theorem wordsTo_zero (l : List UInt8) : wordsTo l 0 = [] := rfl

theorem CellsFrom.at8 {w : World} {p : Nat} {xs : List Nat} (h : CellsFrom encN w p 0 xs) (i x : Nat) (hx : xs[i]? = some x) : w.cell? ⟨p, i, none⟩ = some (.int .i64 (x : Int)) := by
  obtain ⟨hi, rfl⟩ := List.getElem?_eq_some_iff.1 hx
  have := h i hi
  rw [Nat.zero_add] at this
  exact this
theorem i64_xor_of {a b c : Nat} (ha : a < 9223372036854775808) (hb : b < 9223372036854775808) (h : a ^^^ b = c) : bits .xor .i64 (a : Int) (b : Int) = (c : Int) := by rw [i64_xor_nat a b ha hb, h]
theorem i64_and_of {a b c : Nat} (ha : a < 9223372036854775808) (hb : b < 9223372036854775808) (h : a &&& b = c) : bits .and .i64 (a : Int) (b : Int) = (c : Int) := by rw [i64_and_nat a b ha hb, h]
theorem addSt_take (s v : St) (j : Nat) (hj : j < 8) : (addSt s v).toL.take (j + 1) = (addSt s v).toL.take j ++ [low32 (s.toL[j]'hj + v.toL[j]'hj)] :=
  match j, hj with
  | 0, _ => rfl
  | 1, _ => rfl
  | 2, _ => rfl
  | 3, _ => rfl
  | 4, _ => rfl
  | 5, _ => rfl
  | 6, _ => rfl
  | 7, _ => rfl
theorem toL_lt {s : St} (h : s.ok) : ∀ x ∈ s.toL, x < 4294967296 := by
  obtain ⟨h1, h2, h3, h4, h5, h6, h7, h8⟩ := h
  intro x hx
  simp only [St.toL, List.mem_cons, List.not_mem_nil, or_false] at hx
  rcases hx with rfl | rfl | rfl | rfl | rfl | rfl | rfl | rfl <;> assumption
theorem encN_one (x : Nat) : (encN x).oneCell' = true := rfl

set_option maxRecDepth 100000 in
set_option maxHeartbeats 2000000 in
theorem refBlock_any (s : St) (K : List Nat) (l : List UInt8) (ph ch pk ck pb ob cb : Nat) (w : World) (hs : s.ok) (hK : K.length = 64) (hKlt : ∀ x ∈ K, x < 4294967296) (hl : l.length = 64)
    (hh : CellsFrom encN w ph 0 s.toL) (hk : CellsFrom encN w pk 0 K) (hb : CellsFrom encB w pb ob l) (lh : ph < w.heap.size) (lk : pk < w.heap.size) (lb : pb < w.heap.size) :
    Calls Try.prog 23 #[.slice (some ⟨ph, 0, none⟩) 8 ch, .slice (some ⟨pk, 0, none⟩) 64 ck, .slice (some ⟨pb, ob, none⟩) 64 cb] w fun e w' => ∃ v, e = .returned v ∧ OwnL encN w' w.heap.size 3 v (blkS K s l).toL ∧ Below w.heap.size w w' := by
  have HH := Lib.hid hh; clear hh
  have HK := Lib.hid hk; clear hk
  have HB := Lib.hid hb; clear hb
  go_enter Try.func23, Try.ntmps23
  go_wp2
  go_loopw [7, 8] (fun v i wr => ∃ (k : Nat), k ≤ 64 ∧ i = .int .i64 k ∧ OwnL encN wr w.heap.size 3 v (wordsTo l k) ∧ Below w.heap.size w wr) (fun _ i _ => 64 - (intOf i).toNat)
  case atStart => exact ⟨0, Nat.zero_le _, rfl, OwnL.nil _ _ _ _, Below.refl _ _⟩
  case round =>
    obtain ⟨k, hk, rfl, hown, hbe⟩ := hrel
    have HBE := Lib.hid hbe; clear hbe
    have Hown := Lib.hid hown; clear hown
    by_cases hlt : k < 16
    · have kq : (k : Int) < 16 := by omega
      have k64 : (k : Int) < 64 := by omega
      have WL := Lib.hid (wordsTo_lo l k hlt)
      have WN := Lib.hid (wordsTo_length l k)
      have BK := HB.out.new lb HBE.out
      have c0 := BK (4 * k) (by omega)
      have c1 := BK (4 * k + 1) (by omega)
      have c2 := BK (4 * k + 2) (by omega)
      have c3 := BK (4 * k + 3) (by omega)
      unfold encB at c0 c1 c2 c3
      have WB := Lib.hid (wordB_at l k hl hlt)
      have b0 := (l[4 * k]'(by omega)).toNat_lt
      have b1 := (l[4 * k + 1]'(by omega)).toNat_lt
      have b2 := (l[4 * k + 2]'(by omega)).toNat_lt
      have b3 := (l[4 * k + 3]'(by omega)).toNat_lt
      generalize (l[4 * k]'(by omega)).toNat = x0 at *
      generalize (l[4 * k + 1]'(by omega)).toNat = x1 at *
      generalize (l[4 * k + 2]'(by omega)).toNat = x2 at *
      generalize (l[4 * k + 3]'(by omega)).toNat = x3 at *
      clear BK
      obtain ⟨q, hq⟩ : ∃ q, q = 4 * k := ⟨_, rfl⟩
      have i0 : IntKind.i64.wrap (4 * (k : Int)) = (q : Int) := by rw [IntWalk.i64_in _ (by omega)]; omega
      rw [← hq] at c0 c1 c2 c3
      obtain ⟨q1, hq1⟩ : ∃ q1, q1 = q + 1 := ⟨_, rfl⟩
      obtain ⟨q2, hq2⟩ : ∃ q1, q1 = q + 2 := ⟨_, rfl⟩
      obtain ⟨q3, hq3⟩ : ∃ q1, q1 = q + 3 := ⟨_, rfl⟩
      have i1 : IntKind.i64.wrap ((q : Int) + 1) = (q1 : Int) := by rw [IntWalk.i64_in _ (by omega)]; omega
      have i2 : IntKind.i64.wrap ((q : Int) + 2) = (q2 : Int) := by rw [IntWalk.i64_in _ (by omega)]; omega
      have i3 : IntKind.i64.wrap ((q : Int) + 3) = (q3 : Int) := by rw [IntWalk.i64_in _ (by omega)]; omega
      rw [← hq1] at c1
      rw [← hq2] at c2
      rw [← hq3] at c3
      have j0 : (q : Int) < 64 := by omega
      have j1 : (q1 : Int) < 64 := by omega
      have j2 : (q2 : Int) < 64 := by omega
      have j3 : (q3 : Int) < 64 := by omega
      have p0 : (0 : Int) ≤ (q : Int) := by omega
      have p1 : (0 : Int) ≤ (q1 : Int) := by omega
      have p2 : (0 : Int) ≤ (q2 : Int) := by omega
      have p3 : (0 : Int) ≤ (q3 : Int) := by omega
      obtain ⟨y0, hy0⟩ : ∃ y, y = x0 * 16777216 := ⟨_, rfl⟩
      obtain ⟨y1, hy1⟩ : ∃ y, y = x1 * 65536 := ⟨_, rfl⟩
      obtain ⟨y2, hy2⟩ : ∃ y, y = x2 * 256 := ⟨_, rfl⟩
      obtain ⟨z1, hz1⟩ : ∃ y, y = y0 + y1 := ⟨_, rfl⟩
      obtain ⟨z2, hz2⟩ : ∃ y, y = z1 + y2 := ⟨_, rfl⟩
      obtain ⟨z3, hz3⟩ : ∃ y, y = z2 + x3 := ⟨_, rfl⟩
      have v0 := i64_small x0 (by omega)
      have v1 := i64_small x1 (by omega)
      have v2 := i64_small x2 (by omega)
      have v3 := i64_small x3 (by omega)
      have s0 : IntKind.i64.wrap ((x0 : Int) * 16777216) = (y0 : Int) := by rw [IntWalk.i64_in _ (by omega)]; omega
      have s1 : IntKind.i64.wrap ((x1 : Int) * 65536) = (y1 : Int) := by rw [IntWalk.i64_in _ (by omega)]; omega
      have s2 : IntKind.i64.wrap ((x2 : Int) * 256) = (y2 : Int) := by rw [IntWalk.i64_in _ (by omega)]; omega
      have t1 := i64_sum hz1.symm (by omega)
      have t2 := i64_sum hz2.symm (by omega)
      have t3 := i64_sum hz3.symm (by omega)
      have WX : Hid (wordB l k = z3) := Lib.hid (by rw [WB.out]; omega)
      have k0 : (0 : Int) ≤ (k : Int) := by omega
      clear hq1 hq2 hq3 hy0 hy1 hy2 hz1 hz2 hz3 WB b0 b1 b2 b3
      clear hq
      go_wp2
      refine wp_region_quiet_tail 33 (by kernel_rfl) (by kernel_rfl) (fun _ _ _ h => h) (Or.inl ⟨by rfl, fun _ => rfl⟩) ?_ (v := u7)
      simp only [List.take_succ_cons, List.take_zero, List.drop_succ_cons, List.drop_zero]
      go_frame
      repeat (go_big_quiet_step (fail))
      refine wpQuiet_nil ?_
      rintro _ ⟨nq, rfl⟩
      have H5 := Lib.hid (show OwnL encN (wr.drewN nq) w.heap.size 3 u7 (wordsTo l k) from Hown.out)
      have B5 := Lib.hid (Below_drewN HBE.out nq)
      have hb0 := B5.out.size
      clear c0 c1 c2 c3 HBE Hown i0 i1 i2 i3 j0 j1 j2 j3 p0 p1 p2 p3 v0 v1 v2 v3 s0 s1 s2 t1 t2 t3
      generalize wr.drewN nq = w5 at *
      go_wp2_with (at_builtin; refine append_elem (enc := encN) (y := z3) rfl _ _ 47 3 (.int .i64 0) 8 (by rfl) Try.underlying47 info_int rfl w.heap.size _ _ rfl (by rfl) H5.out (by rfl) (by rw [WN.out]; omega) (by rw [WN.out]; unfold maxLen; omega) hb0 ?_; intro v' w6 hown6 hb6 hk6; have H6 := Lib.hid hown6; clear hown6 hk6)
      have B6 := Lib.hid (B5.out.trans hb6)
      clear hb6
      go_wp2
      go_roundw
      case rel => exact ⟨k + 1, by omega, by go_num, by rw [WL.out, WX.out]; exact H6.out, B6.out⟩
      case measure => simp [intOf]; omega
    · by_cases hlt2 : k < 64
      · have hwl := wordsTo_length l k
        have WL := Lib.hid (wordsTo_hi l k (by omega))
        have hWlt := wordsTo_lt l k
        obtain ⟨g, gc, hv, hg1, hg2, hgc⟩ := OwnL.block Hown.out (by intro e; rw [e] at hwl; simp at hwl; omega)
        rw [hwl] at hv
        subst hv
        have c16 := hgc (k - 16) (by omega)
        have c15 := hgc (k - 15) (by omega)
        have c7 := hgc (k - 7) (by omega)
        have c2 := hgc (k - 2) (by omega)
        rw [Nat.zero_add] at c16 c15 c7 c2
        have NX := nextW_at (wordsTo l k) k hwl (by omega)
        have d16 := hWlt _ (List.getElem_mem (show k - 16 < (wordsTo l k).length by omega))
        have d15 := hWlt _ (List.getElem_mem (show k - 15 < (wordsTo l k).length by omega))
        have d7 := hWlt _ (List.getElem_mem (show k - 7 < (wordsTo l k).length by omega))
        have d2 := hWlt _ (List.getElem_mem (show k - 2 < (wordsTo l k).length by omega))
        generalize (wordsTo l k)[k - 16]'(by omega) = z16 at *
        generalize (wordsTo l k)[k - 15]'(by omega) = x at *
        generalize (wordsTo l k)[k - 7]'(by omega) = z7 at *
        generalize (wordsTo l k)[k - 2]'(by omega) = y at *
        unfold encN at c16 c15 c7 c2
        have R7 := fun w' => Lib.hid (show Calls Try.prog 35 #[.int .i64 (x : Int), .int .i64 7] w' fun e w'' => e = .returned (.int .i64 (rotr x 7 : Nat)) ∧ ∃ m, w'' = w'.drewN m from refRight_any x 7 w' d15 (by decide) (by decide))
        have R18 := fun w' => Lib.hid (show Calls Try.prog 35 #[.int .i64 (x : Int), .int .i64 18] w' fun e w'' => e = .returned (.int .i64 (rotr x 18 : Nat)) ∧ ∃ m, w'' = w'.drewN m from refRight_any x 18 w' d15 (by decide) (by decide))
        have R17 := fun w' => Lib.hid (show Calls Try.prog 35 #[.int .i64 (y : Int), .int .i64 17] w' fun e w'' => e = .returned (.int .i64 (rotr y 17 : Nat)) ∧ ∃ m, w'' = w'.drewN m from refRight_any y 17 w' d2 (by decide) (by decide))
        have R19 := fun w' => Lib.hid (show Calls Try.prog 35 #[.int .i64 (y : Int), .int .i64 19] w' fun e w'' => e = .returned (.int .i64 (rotr y 19 : Nat)) ∧ ∃ m, w'' = w'.drewN m from refRight_any y 19 w' d2 (by decide) (by decide))
        have l7 := rotr_lt x 7 d15
        have l18 := rotr_lt x 18 d15
        have l17 := rotr_lt y 17 d2
        have l19 := rotr_lt y 19 d2
        unfold sg0 sg1 at NX
        generalize rotr x 7 = r7 at *
        generalize rotr x 18 = r18 at *
        generalize rotr y 17 = r17 at *
        generalize rotr y 19 = r19 at *
        obtain ⟨a1, ha1⟩ : ∃ a, r7 ^^^ r18 = a := ⟨_, rfl⟩
        obtain ⟨x8, hx8⟩ : ∃ a, x / 8 = a := ⟨_, rfl⟩
        obtain ⟨s0, hs0⟩ : ∃ a, a1 ^^^ x8 = a := ⟨_, rfl⟩
        obtain ⟨a2, ha2⟩ : ∃ a, r17 ^^^ r19 = a := ⟨_, rfl⟩
        obtain ⟨y10, hy10⟩ : ∃ a, y / 1024 = a := ⟨_, rfl⟩
        obtain ⟨s1, hs1⟩ : ∃ a, a2 ^^^ y10 = a := ⟨_, rfl⟩
        obtain ⟨m1, hm1⟩ : ∃ m, z16 + s0 = m := ⟨_, rfl⟩
        obtain ⟨m2, hm2⟩ : ∃ m, m1 + z7 = m := ⟨_, rfl⟩
        obtain ⟨m3, hm3⟩ : ∃ m, m2 + s1 = m := ⟨_, rfl⟩
        rw [ha1, hx8, hs0, ha2, hy10, hs1, hm1, hm2, hm3] at NX
        have la1 : a1 < 4294967296 := by rw [← ha1]; exact xor_lt32 l7 l18
        have la2 : a2 < 4294967296 := by rw [← ha2]; exact xor_lt32 l17 l19
        have lx8 : x8 < 4294967296 := by omega
        have ly10 : y10 < 4294967296 := by omega
        have ls0 : s0 < 4294967296 := by rw [← hs0]; exact xor_lt32 la1 lx8
        have ls1 : s1 < 4294967296 := by rw [← hs1]; exact xor_lt32 la2 ly10
        have X1 := i64_xor_of (by omega) (by omega) ha1
        have X2 := i64_xor_of (by omega) (by omega) hs0
        have X3 := i64_xor_of (by omega) (by omega) ha2
        have X4 := i64_xor_of (by omega) (by omega) hs1
        have A1 := i64_sum hm1 (by omega)
        have A2 := i64_sum hm2 (by omega)
        have A3 := i64_sum hm3 (by omega)
        have L1 := fun w' => Lib.hid (low_any (m3 : Int) (low32 m3) w' (by unfold low32; omega))
        have x8' : (x : Int) / 8 = (x8 : Int) := by omega
        have y10' : (y : Int) / 1024 = (y10 : Int) := by omega
        have NXH := Lib.hid NX
        clear NX ha1 hx8 hs0 ha2 hy10 hs1 hm1 hm2 hm3 la1 la2 lx8 ly10 ls0 ls1
        generalize low32 m3 = nx at *
        obtain ⟨n16, hn16⟩ : ∃ m, m = k - 16 := ⟨_, rfl⟩
        obtain ⟨n15, hn15⟩ : ∃ m, m = k - 15 := ⟨_, rfl⟩
        obtain ⟨n7, hn7⟩ : ∃ m, m = k - 7 := ⟨_, rfl⟩
        obtain ⟨n2, hn2⟩ : ∃ m, m = k - 2 := ⟨_, rfl⟩
        rw [← hn16] at c16
        rw [← hn15] at c15
        rw [← hn7] at c7
        rw [← hn2] at c2
        have w16 : IntKind.i64.wrap ((k : Int) - 16) = (n16 : Int) := by rw [IntWalk.i64_in _ (by omega)]; omega
        have w15 : IntKind.i64.wrap ((k : Int) - 15) = (n15 : Int) := by rw [IntWalk.i64_in _ (by omega)]; omega
        have w7 : IntKind.i64.wrap ((k : Int) - 7) = (n7 : Int) := by rw [IntWalk.i64_in _ (by omega)]; omega
        have w2 : IntKind.i64.wrap ((k : Int) - 2) = (n2 : Int) := by rw [IntWalk.i64_in _ (by omega)]; omega
        have q16 : (n16 : Int) < (k : Int) := by omega
        have q15 : (n15 : Int) < (k : Int) := by omega
        have q7 : (n7 : Int) < (k : Int) := by omega
        have q2 : (n2 : Int) < (k : Int) := by omega
        have o16 : (0 : Int) ≤ (n16 : Int) := by omega
        have o15 : (0 : Int) ≤ (n15 : Int) := by omega
        have o7 : (0 : Int) ≤ (n7 : Int) := by omega
        have o2 : (0 : Int) ≤ (n2 : Int) := by omega
        have k64 : (k : Int) < 64 := by omega
        have n16' : ¬ ((k : Int) < 16) := by omega
        have Hwl := Lib.hid hwl
        clear hn16 hn15 hn7 hn2 hWlt hwl hgc
        go_wp2
        refine wp_region_quiet_tail 30 (by kernel_rfl) (by kernel_rfl) (fun _ _ _ h => h) (Or.inl ⟨by rfl, fun _ => rfl⟩) ?_ (v := .slice (some ⟨g, 0, none⟩) k gc)
        simp only [List.take_succ_cons, List.take_zero, List.drop_succ_cons, List.drop_zero]
        go_frame
        repeat (go_big_quiet_step ((first | (go_at_call 35; (with_reducible exact Calls.quiet_of (R7 _).out)) | (go_at_call 35; (with_reducible exact Calls.quiet_of (R18 _).out)) | (go_at_call 35; (with_reducible exact Calls.quiet_of (R17 _).out)) | (go_at_call 35; (with_reducible exact Calls.quiet_of (R19 _).out)) | (go_at_call 34; (with_reducible exact quiet_left (L1 _).out)))))
        refine wpQuiet_nil ?_
        rintro _ ⟨nq, rfl⟩
        have H5 := Lib.hid (show OwnL encN (wr.drewN nq) w.heap.size 3 (.slice (some ⟨g, 0, none⟩) k gc) (wordsTo l k) from Hown.out)
        have B5 := Lib.hid (Below_drewN HBE.out nq)
        have hb0 := B5.out.size
        clear c16 c15 c7 c2 HBE Hown X1 X2 X3 X4 A1 A2 A3 L1 x8' y10' R7 R18 R17 R19 w16 w15 w7 w2 hg2
        generalize wr.drewN nq = w5 at *
        go_wp2_with (at_builtin; refine append_elem (enc := encN) (y := nx) rfl _ _ 47 3 (.int .i64 0) 8 (by rfl) Try.underlying47 info_int rfl w.heap.size _ _ rfl (by rfl) H5.out (by rfl) (by rw [Hwl.out]; omega) (by rw [Hwl.out]; unfold maxLen; omega) hb0 ?_; intro v' w6 hown6 hb6 hk6; have H6 := Lib.hid hown6; clear hown6 hk6)
        have B6 := Lib.hid (B5.out.trans hb6)
        clear hb6
        go_wp2
        go_roundw
        case rel => exact ⟨k + 1, hlt2, by go_num, by rw [WL.out, NXH.out]; exact H6.out, B6.out⟩
        case measure => simp [intOf]; exact less64 k hlt2
      · have hk64 : k = 64 := by omega
        rw [hk64, wordsTo_all] at Hown
        have nk : ¬ ((k : Int) < 64) := by omega
        obtain ⟨wb, wc, hv, hwb1, hwb2, hwc⟩ := OwnL.block Hown.out (by intro e; have := congrArg List.length e; rw [wordsOf_length] at this; cases this)
        rw [wordsOf_length] at hv
        subst hv
        clear Hown hlt hlt2 hk hk64
        have HHr := HH.out.new lh HBE.out
        have lhr : ph < wr.heap.size := Nat.lt_of_lt_of_le lh HBE.out.size
        have hb0 := HBE.out.size
        go_wp2_with (at_builtin; refine append_copy (enc := encN) rfl _ _ 47 3 (.int .i64 0) 8 (by rfl) Try.underlying47 info_int rfl wr.heap.size rfl s.toL encN_one ph 8 ch rfl rfl lhr HHr (by decide) (by decide) (Nat.le_refl _) ?_; intro v' w6 hown6 hb6; have H6 := Lib.hid (hown6.mono hb0); have B6 := Lib.hid (HBE.out.trans (hb6.mono hb0)); have hW := hwc.new hwb2 hb6; have hwb6 := Nat.lt_of_lt_of_le hwb2 hb6.size; clear hown6 hb6)
        obtain ⟨W, HWe⟩ : ∃ W, W = wordsOf l := ⟨_, rfl⟩
        have hWl := wordsOf_length l
        have hWlt := wordsOf_lt l
        have hBS : Hid ((blkS K s l).toL = (addSt s (rnds K W s 64)).toL) := Lib.hid (by rw [HWe]; rfl)
        rw [← HWe] at hW hWl hWlt
        have HW := Lib.hid hW
        have HWlt := Lib.hid hWlt
        have HWl := Lib.hid hWl
        have HKlt := Lib.hid hKlt
        have HKl := Lib.hid hK
        have HS := Lib.hid hs
        clear HHr hW hWlt hWl hKlt hK hs HWe HBE hwb1 hwb2 hwc lhr hb0
        have hs6 := B6.out.size
        go_wp2
        go_loopw [11, 12] (fun v i wr => ∃ (k : Nat), k ≤ 64 ∧ i = .int .i64 k ∧ OwnL encN wr w.heap.size 3 v (rnds K W s k).toL ∧ Below w6.heap.size w6 wr) (fun _ i _ => 64 - (intOf i).toNat)
        case atStart => exact ⟨0, Nat.zero_le _, rfl, H6.out, Below.refl _ _⟩
        case round =>
          obtain ⟨k, hk, rfl, hown, hbe⟩ := hrel
          have HBE := Lib.hid hbe; clear hbe
          obtain ⟨g, gc, hv, hg1, hg2, hgc⟩ := OwnL.block hown (by intro e; cases e)
          have hv : u11 = .slice (some ⟨g, 0, none⟩) 8 gc := hv
          subst hv
          have Hown := Lib.hid hown; clear hown
          have hok := rnds_ok (K := K) (W := W) HS.out k
          have HR := Lib.hid (show rnds K W s (k + 1) = rnd (rnds K W s k) (K.getD k 0) (W.getD k 0) from rfl)
          by_cases hlt : k < 64
          · have qk := (HK.out.new lk (B6.out.trans (HBE.out.mono hs6))) k (by rw [HKl.out]; exact hlt)
            have qw := (HW.out.new hwb6 HBE.out) k (by rw [HWl.out]; exact hlt)
            have kl := HKlt.out _ (List.getElem_mem (show k < K.length by rw [HKl.out]; exact hlt))
            have wl := HWlt.out _ (List.getElem_mem (show k < W.length by rw [HWl.out]; exact hlt))
            rw [show K.getD k 0 = K[k]'(by rw [HKl.out]; exact hlt) by simp [List.getD_eq_getElem?_getD, HKl.out, hlt], show W.getD k 0 = W[k]'(by rw [HWl.out]; exact hlt) by simp [List.getD_eq_getElem?_getD, HWl.out, hlt]] at HR
            generalize K[k]'(by rw [HKl.out]; exact hlt) = kk at *
            generalize W[k]'(by rw [HWl.out]; exact hlt) = ww at *
            obtain ⟨s', hs'⟩ : ∃ s', rnds K W s k = s' := ⟨_, rfl⟩
            rw [hs'] at hok HR hgc Hown
            clear hs'
            obtain ⟨la, lb, lc, ld, le, lf, lg, lh'⟩ := hok
            have hgc : CellsFrom encN wr g 0 [s'.a, s'.b, s'.c, s'.d, s'.e, s'.f, s'.g, s'.h] := hgc
            have n0 := hgc.at8 0 _ rfl
            have n1 := hgc.at8 1 _ rfl
            have n2 := hgc.at8 2 _ rfl
            have n3 := hgc.at8 3 _ rfl
            have n4 := hgc.at8 4 _ rfl
            have n5 := hgc.at8 5 _ rfl
            have n6 := hgc.at8 6 _ rfl
            have n7 := hgc.at8 7 _ rfl
            have R6 : ∀ w' : World, Hid (Calls Try.prog 35 #[.int .i64 (s'.e : Int), .int .i64 6] w' fun e w'' => e = .returned (.int .i64 (rotr s'.e 6 : Nat)) ∧ ∃ m, w'' = w'.drewN m) := fun w' => Lib.hid (refRight_any s'.e 6 w' le (by decide) (by decide))
            have R11 : ∀ w' : World, Hid (Calls Try.prog 35 #[.int .i64 (s'.e : Int), .int .i64 11] w' fun e w'' => e = .returned (.int .i64 (rotr s'.e 11 : Nat)) ∧ ∃ m, w'' = w'.drewN m) := fun w' => Lib.hid (refRight_any s'.e 11 w' le (by decide) (by decide))
            have R25 : ∀ w' : World, Hid (Calls Try.prog 35 #[.int .i64 (s'.e : Int), .int .i64 25] w' fun e w'' => e = .returned (.int .i64 (rotr s'.e 25 : Nat)) ∧ ∃ m, w'' = w'.drewN m) := fun w' => Lib.hid (refRight_any s'.e 25 w' le (by decide) (by decide))
            have R2 : ∀ w' : World, Hid (Calls Try.prog 35 #[.int .i64 (s'.a : Int), .int .i64 2] w' fun e w'' => e = .returned (.int .i64 (rotr s'.a 2 : Nat)) ∧ ∃ m, w'' = w'.drewN m) := fun w' => Lib.hid (refRight_any s'.a 2 w' la (by decide) (by decide))
            have R13 : ∀ w' : World, Hid (Calls Try.prog 35 #[.int .i64 (s'.a : Int), .int .i64 13] w' fun e w'' => e = .returned (.int .i64 (rotr s'.a 13 : Nat)) ∧ ∃ m, w'' = w'.drewN m) := fun w' => Lib.hid (refRight_any s'.a 13 w' la (by decide) (by decide))
            have R22 : ∀ w' : World, Hid (Calls Try.prog 35 #[.int .i64 (s'.a : Int), .int .i64 22] w' fun e w'' => e = .returned (.int .i64 (rotr s'.a 22 : Nat)) ∧ ∃ m, w'' = w'.drewN m) := fun w' => Lib.hid (refRight_any s'.a 22 w' la (by decide) (by decide))
            obtain ⟨x1, hx1⟩ : ∃ x, rotr s'.e 6 ^^^ rotr s'.e 11 = x := ⟨_, rfl⟩
            obtain ⟨S1, hS1⟩ : ∃ x, x1 ^^^ rotr s'.e 25 = x := ⟨_, rfl⟩
            obtain ⟨m1, hm1⟩ : ∃ x, s'.h + S1 = x := ⟨_, rfl⟩
            obtain ⟨an, han⟩ : ∃ x, s'.e &&& s'.f = x := ⟨_, rfl⟩
            obtain ⟨ne, hne⟩ : ∃ x, 4294967295 - s'.e = x := ⟨_, rfl⟩
            obtain ⟨a2, ha2⟩ : ∃ x, ne &&& s'.g = x := ⟨_, rfl⟩
            obtain ⟨c1, hc1⟩ : ∃ x, an ^^^ a2 = x := ⟨_, rfl⟩
            obtain ⟨m2, hm2⟩ : ∃ x, m1 + c1 = x := ⟨_, rfl⟩
            obtain ⟨m3, hm3⟩ : ∃ x, m2 + kk = x := ⟨_, rfl⟩
            obtain ⟨t, ht⟩ : ∃ x, m3 + ww = x := ⟨_, rfl⟩
            obtain ⟨y1, hy1⟩ : ∃ x, rotr s'.a 2 ^^^ rotr s'.a 13 = x := ⟨_, rfl⟩
            obtain ⟨S0, hS0⟩ : ∃ x, y1 ^^^ rotr s'.a 22 = x := ⟨_, rfl⟩
            obtain ⟨ab, hab⟩ : ∃ x, s'.a &&& s'.b = x := ⟨_, rfl⟩
            obtain ⟨ac, hac⟩ : ∃ x, s'.a &&& s'.c = x := ⟨_, rfl⟩
            obtain ⟨y2, hy2⟩ : ∃ x, ab ^^^ ac = x := ⟨_, rfl⟩
            obtain ⟨bc, hbc⟩ : ∃ x, s'.b &&& s'.c = x := ⟨_, rfl⟩
            obtain ⟨mj, hmj⟩ : ∃ x, y2 ^^^ bc = x := ⟨_, rfl⟩
            obtain ⟨u, hu⟩ : ∃ x, S0 + mj = x := ⟨_, rfl⟩
            obtain ⟨tu, htu⟩ : ∃ x, t + u = x := ⟨_, rfl⟩
            obtain ⟨dt, hdt⟩ : ∃ x, s'.d + t = x := ⟨_, rfl⟩
            have RO : Hid (rnd s' kk ww = ⟨low32 tu, s'.a, s'.b, s'.c, low32 dt, s'.e, s'.f, s'.g⟩) := Lib.hid (by
              unfold rnd tS uS Sg1 Sg0 chS majS
              rw [hx1, hS1, hm1, han, hne, ha2, hc1, hm2, hm3, ht, hy1, hS0, hab, hac, hy2, hbc, hmj, hu, htu, hdt])
            have HR2 := Lib.hid (HR.out.trans RO.out)
            have l6 := rotr_lt s'.e 6 le
            have l11 := rotr_lt s'.e 11 le
            have l25 := rotr_lt s'.e 25 le
            have l2 := rotr_lt s'.a 2 la
            have l13 := rotr_lt s'.a 13 la
            have l22 := rotr_lt s'.a 22 la
            have lx1 : x1 < 4294967296 := by rw [← hx1]; exact xor_lt32 l6 l11
            have lS1 : S1 < 4294967296 := by rw [← hS1]; exact xor_lt32 lx1 l25
            have lan : an < 4294967296 := by rw [← han]; exact and_lt32 lf
            have la2 : a2 < 4294967296 := by rw [← ha2]; exact and_lt32 lg
            have lc1 : c1 < 4294967296 := by rw [← hc1]; exact xor_lt32 lan la2
            have ly1 : y1 < 4294967296 := by rw [← hy1]; exact xor_lt32 l2 l13
            have lS0 : S0 < 4294967296 := by rw [← hS0]; exact xor_lt32 ly1 l22
            have lab : ab < 4294967296 := by rw [← hab]; exact and_lt32 lb
            have lac : ac < 4294967296 := by rw [← hac]; exact and_lt32 lc
            have ly2 : y2 < 4294967296 := by rw [← hy2]; exact xor_lt32 lab lac
            have lbc : bc < 4294967296 := by rw [← hbc]; exact and_lt32 lc
            have lmj : mj < 4294967296 := by rw [← hmj]; exact xor_lt32 ly2 lbc
            have X1 := i64_xor_of (by omega) (by omega) hx1
            have X2 := i64_xor_of (by omega) (by omega) hS1
            have A1 := i64_sum hm1 (by omega)
            have N1 := i64_and_of (by omega) (by omega) han
            have N2 : IntKind.i64.wrap (4294967295 - (s'.e : Int)) = (ne : Int) := by rw [IntWalk.i64_in _ (by omega)]; omega
            have N3 := i64_and_of (show ne < 9223372036854775808 by omega) (by omega) ha2
            have X3 := i64_xor_of (by omega) (by omega) hc1
            have A2 := i64_sum hm2 (by omega)
            have A3 := i64_sum hm3 (by omega)
            have A4 := i64_sum ht (by omega)
            have Y1 := i64_xor_of (by omega) (by omega) hy1
            have Y2 := i64_xor_of (by omega) (by omega) hS0
            have M1 := i64_and_of (by omega) (by omega) hab
            have M2 := i64_and_of (by omega) (by omega) hac
            have Y3 := i64_xor_of (by omega) (by omega) hy2
            have M3 := i64_and_of (by omega) (by omega) hbc
            have Y4 := i64_xor_of (by omega) (by omega) hmj
            have U := i64_sum hu (by omega)
            have TU := i64_sum htu (by omega)
            have DT := i64_sum hdt (by omega)
            have L1 := fun w' => Lib.hid (low_any (tu : Int) (low32 tu) w' (by unfold low32; omega))
            have L2 := fun w' => Lib.hid (low_any (dt : Int) (low32 dt) w' (by unfold low32; omega))
            clear RO HR hx1 hS1 hm1 han hne ha2 hc1 hm2 hm3 ht hy1 hS0 hab hac hy2 hbc hmj hu htu hdt lab lac lx1 lS1 lan la2 lc1 ly1 lS0 ly2 lbc lmj
            generalize low32 tu = na at *
            generalize low32 dt = nn at *
            generalize rotr s'.e 6 = r6 at *
            generalize rotr s'.e 11 = r11 at *
            generalize rotr s'.e 25 = r25 at *
            generalize rotr s'.a 2 = r2 at *
            generalize rotr s'.a 13 = r13 at *
            generalize rotr s'.a 22 = r22 at *
            generalize s'.a = sa at *
            generalize s'.b = sb at *
            generalize s'.c = sc at *
            generalize s'.d = sd at *
            generalize s'.e = se at *
            generalize s'.f = sf at *
            generalize s'.g = sg at *
            generalize s'.h = sh at *
            have kq : (k : Int) < 64 := by omega
            have k0 : (0 : Int) ≤ (k : Int) := by omega
            have G0 := Lib.hid hgc; clear hgc
            have qk' : wr.cell? ⟨pk, k, none⟩ = some (.int .i64 (kk : Int)) := by rw [Nat.zero_add] at qk; exact qk
            have qw' : wr.cell? ⟨wb, k, none⟩ = some (.int .i64 (ww : Int)) := by rw [Nat.zero_add] at qw; exact qw
            clear qk qw
            go_wp2
            go_quiet ((first | (go_at_call 35; (with_reducible exact Calls.quiet_of (R6 _).out)) | (go_at_call 35; (with_reducible exact Calls.quiet_of (R11 _).out)) | (go_at_call 35; (with_reducible exact Calls.quiet_of (R25 _).out))))
            have G1 := Lib.hid (show CellsFrom encN (wr.drewN nq) g 0 [sa, sb, sc, sd, se, sf, sg, sh] from G0.out)
            have B7 := Lib.hid (Below_drewN HBE.out nq)
            have g7 : g < (wr.drewN nq).heap.size := hg2
            clear X1 X2 A1 N1 N2 N3 X3 A2 A3 A4 qk' qw' R6 R11 R25 n0 n1 n2 n3 n4 n5 n6 n7 G0 HBE hg2 Hown
            generalize wr.drewN nq = w7 at *
            have n1 := G1.out.at8 1 _ rfl
            have n2 := G1.out.at8 2 _ rfl
            go_wp2
            go_quiet ((first | (go_at_call 35; (with_reducible exact Calls.quiet_of (R2 _).out)) | (go_at_call 35; (with_reducible exact Calls.quiet_of (R13 _).out)) | (go_at_call 35; (with_reducible exact Calls.quiet_of (R22 _).out))))
            have G2 := Lib.hid (show CellsFrom encN (w7.drewN nq) g 0 [sa, sb, sc, sd, se, sf, sg, sh] from G1.out)
            have B8 := Lib.hid (Below_drewN B7.out nq)
            have g8 : g < (w7.drewN nq).heap.size := g7
            clear Y1 Y2 M1 M2 Y3 M3 Y4 U R2 R13 R22 n1 n2 B7 G1 g7
            generalize w7.drewN nq = w8 at *
            have n1 := G2.out.at8 1 _ rfl
            have n2 := G2.out.at8 2 _ rfl
            have n3 := G2.out.at8 3 _ rfl
            have n5 := G2.out.at8 5 _ rfl
            have n6 := G2.out.at8 6 _ rfl
            go_wp2
            refine wp_region_quiet_tail 23 (by kernel_rfl) (by kernel_rfl) (fun _ _ _ h => h) (Or.inl ⟨by rfl, fun _ => rfl⟩) ?_ (v := .int .i64 (t : Int))
            simp only [List.take_succ_cons, List.take_zero, List.drop_succ_cons, List.drop_zero]
            go_frame
            repeat (go_big_quiet_step ((first | (go_at_call 34; (with_reducible exact quiet_left (L1 _).out)) | (go_at_call 34; (with_reducible exact quiet_left (L2 _).out)))))
            refine wpQuiet_nil ?_
            rintro _ ⟨nr, rfl⟩
            have B9 := Lib.hid (Below_drewN B8.out nr)
            clear n1 n2 n3 n5 n6 B8 G2 g8 TU DT L1 L2
            generalize w8.drewN nr = w9 at *
            go_wp2
            go_roundw
            case rel =>
              refine ⟨k + 1, hlt, by go_num, ?_, B9.out.alloc B9.out.size _⟩
              rw [HR2.out]
              exact World.ownsRow_lit (base := w.heap.size) (size := 1) w9 _ 8 (Nat.le_trans hs6 B9.out.size) (by decide) rfl
            case measure => simp [intOf]; exact less64 k hlt
          · have hk64 : k = 64 := by omega
            have nk : ¬ ((k : Int) < 64) := by omega
            obtain ⟨V, hV⟩ : ∃ V, rnds K W s k = V := ⟨_, rfl⟩
            have hBS2 : Hid ((blkS K s l).toL = (addSt s V).toL) := Lib.hid (by rw [hBS.out, ← hV, hk64])
            rw [hV] at hok hgc
            have B7 := Lib.hid (B6.out.trans (HBE.out.mono hs6))
            have hs7 := B7.out.size
            have lhr : ph < wr.heap.size := Nat.lt_of_lt_of_le lh hs7
            have HHr := Lib.hid (HH.out.new lh B7.out)
            have HG := Lib.hid hgc
            have HOK := Lib.hid hok
            clear Hown hgc hok hk hk64 hBS HR HBE HW HWlt HWl HKlt HKl hV hlt HK HB H6 B6 HH
            obtain ⟨w7, rfl⟩ : ∃ w7, w7 = wr := ⟨_, rfl⟩
            go_wp2
            go_loopw [17, 18] (fun v i w' => ∃ j : Nat, j ≤ 8 ∧ i = .int .i64 j ∧ OwnL encN w' w7.heap.size 3 v ((addSt s V).toL.take j) ∧ Below w7.heap.size w7 w') (fun _ i _ => 8 - (intOf i).toNat)
            case atStart => exact ⟨0, Nat.zero_le _, rfl, OwnL.nil _ _ _ _, Below.refl _ _⟩
            case round =>
              obtain ⟨j, hj, rfl, hown, hbe⟩ := hrel
              have HBE := Lib.hid hbe; clear hbe
              have Hown := Lib.hid hown; clear hown
              by_cases hlt : j < 8
              · have qx := (HHr.out.new lhr HBE.out) j hlt
                have qy := (HG.out.new hg2 HBE.out) j hlt
                have xl := toL_lt HS.out _ (List.getElem_mem (show j < s.toL.length from hlt))
                have yl := toL_lt HOK.out _ (List.getElem_mem (show j < V.toL.length from hlt))
                have AT := Lib.hid (addSt_take s V j hlt)
                have AL : Hid (((addSt s V).toL.take j).length = j) := Lib.hid (by rw [List.length_take]; show min j 8 = j; omega)
                rw [Nat.zero_add] at qx qy
                generalize s.toL[j]'hlt = x at *
                generalize V.toL[j]'hlt = y at *
                unfold encN at qx qy
                obtain ⟨z, hz⟩ : ∃ z, x + y = z := ⟨_, rfl⟩
                have A1 := i64_sum hz (by omega)
                have L1 := fun w' => Lib.hid (low_any (z : Int) (low32 z) w' (by unfold low32; omega))
                rw [hz] at AT
                have jq : (j : Int) < 8 := by omega
                have j0 : (0 : Int) ≤ (j : Int) := by omega
                clear hz
                generalize low32 z = o at *
                go_wp2
                refine wp_region_quiet_tail 10 (by kernel_rfl) (by kernel_rfl) (fun _ _ _ h => h) (Or.inl ⟨by rfl, fun _ => rfl⟩) ?_ (v := u17)
                simp only [List.take_succ_cons, List.take_zero, List.drop_succ_cons, List.drop_zero]
                go_frame
                repeat (go_big_quiet_step ((go_at_call 34; (with_reducible exact quiet_left (L1 _).out))))
                refine wpQuiet_nil ?_
                rintro _ ⟨nr, rfl⟩
                have H5 := Lib.hid (show OwnL encN (wr.drewN nr) w7.heap.size 3 u17 ((addSt s V).toL.take j) from Hown.out)
                have B5 := Lib.hid (Below_drewN HBE.out nr)
                have hb0 := B5.out.size
                clear HBE Hown qx qy A1 L1
                generalize wr.drewN nr = w5 at *
                go_wp2_with (at_builtin; refine append_elem (enc := encN) (y := o) rfl _ _ 47 3 (.int .i64 0) 8 (by rfl) Try.underlying47 info_int rfl w7.heap.size _ _ rfl (by rfl) H5.out (by rfl) (by rw [AL.out]; omega) (by rw [AL.out]; unfold maxLen; omega) hb0 ?_; intro v' w6' hown6 hb6 hk6; have H6 := Lib.hid hown6; clear hown6 hk6)
                have B6 := Lib.hid (B5.out.trans hb6)
                clear hb6
                go_wp2
                go_roundw
                case rel => exact ⟨j + 1, hlt, by go_num, by rw [AT.out]; exact H6.out, B6.out⟩
                case measure => simp [intOf]; omega
              · have e8 : j = 8 := by omega
                have nj : ¬ ((j : Int) < 8) := by omega
                have HO : Hid (OwnL encN wr w.heap.size 3 u17 (blkS K s l).toL) := Lib.hid (by
                  have h := Hown.out
                  rw [e8, List.take_of_length_le (Nat.le_refl 8)] at h
                  rw [hBS2.out]
                  exact h.mono hs7)
                have B8 := Lib.hid (B7.out.trans (HBE.out.mono hs7))
                clear Hown HBE e8
                go_wp2
                go_ret
                exact ⟨_, rfl, HO.out, B8.out⟩
end Go.Proofs.Ytbiahhngeldhbaa
