/- The walk of spread: a block's words, one for each round. -/
import Derived.Test.YtbiahhngeldhbaaRotW
import Derived.Test.YtbiahhngeldhbaaIdealW
import Derived.StillTailTactics
import Derived.Laws.Tables
import Derived.Laws.Rows
set_option linter.unusedVariables false
namespace Go.Proofs.Ytbiahhngeldhbaa
open Go.RowKit

/-- Words as a block's cells. -/
def arrW (l : List Nat) : Array Value := (l.map fun x : Nat => Value.int .u32 (x : Int)).toArray
theorem arrW_size (l : List Nat) : (arrW l).size = l.length := by simp [arrW]
theorem arrW_get (l : List Nat) (k x : Nat) (h : l[k]? = some x) : (arrW l)[k]? = some (.int .u32 (x : Int)) := by
  unfold arrW
  simp [h]
theorem arrW_set (l : List Nat) (k x : Nat) : (arrW l).setIfInBounds k (.int .u32 (x : Int)) = arrW (l.set k x) := by
  unfold arrW
  rw [List.setIfInBounds_toArray, List.map_set]
theorem arrW_one (l : List Nat) : (arrW l).all (·.oneCell') = true := by
  rw [Array.all_eq_true_iff_forall_mem]
  intro v hv
  simp only [arrW, List.mem_toArray, List.mem_map] at hv
  obtain ⟨j, _, rfl⟩ := hv
  rfl
/-- The first words, and nothing behind. -/
def fillW (l : List Nat) : List Nat := l ++ List.replicate (64 - l.length) 0
theorem fillW_length (l : List Nat) (h : l.length ≤ 64) : (fillW l).length = 64 := by unfold fillW; simp; omega
theorem fillW_set (l : List Nat) (x : Nat) (h : l.length < 64) : (fillW l).set l.length x = fillW (l ++ [x]) := by
  unfold fillW
  rw [List.set_append_right _ _ (Nat.le_refl _), Nat.sub_self, show 64 - l.length = (64 - (l.length + 1)) + 1 from by omega, List.replicate_succ, List.set_cons_zero]
  simp
theorem fillW_full (l : List Nat) (h : l.length = 64) : fillW l = l := by unfold fillW; simp [h]
theorem fillW_get (l : List Nat) (k : Nat) (h : k < l.length) : (fillW l)[k]? = some l[k] := by
  unfold fillW
  rw [List.getElem?_append_left h, List.getElem?_eq_getElem h]
theorem info_w64 : (Try.prog.info? 61).map (·.size) = some 64 := by kernel_rfl

theorem Below_setRow {B g : Nat} {a w : World} (h : Below B a w) (hg : B ≤ g) (cs : Array Value) : Below B a (w.setRow g cs) :=
  h.trans ⟨rfl, rfl, rfl, by simp, fun k hk => setRow_other w g k cs (by omega)⟩
/-- What a block of 64 bytes holds. -/
def BlockAt (w : World) (b : Nat) (l : List UInt8) : Prop := w.heap[b]? = some (.cells (arrB l) 68 (0, 0))
theorem BlockAt.at' {w : World} {b : Nat} {l : List UInt8} (h : BlockAt w b l) (i : Nat) (hi : i < l.length) : w.cell? ⟨b, i, none⟩ = some (.int .u8 ((l[i].toNat : Nat) : Int)) := by
  rw [cell_of_row _ _ _ _ _ _ h]
  exact arrB_get _ _ _ (List.getElem?_eq_getElem hi)

theorem wordB_at (l : List UInt8) (k : Nat) (hl : l.length = 64) (hk : k < 16) : wordB l k = (l[4 * k]'(by omega)).toNat * 16777216 + (l[4 * k + 1]'(by omega)).toNat * 65536 + (l[4 * k + 2]'(by omega)).toNat * 256 + (l[4 * k + 3]'(by omega)).toNat := by
  unfold wordB
  simp only [List.getD_eq_getElem?_getD, List.getElem?_eq_getElem (show 4 * k < l.length by omega), List.getElem?_eq_getElem (show 4 * k + 1 < l.length by omega), List.getElem?_eq_getElem (show 4 * k + 2 < l.length by omega), List.getElem?_eq_getElem (show 4 * k + 3 < l.length by omega), Option.getD_some]

theorem le48 (n k : Nat) (h : n = 16 + k) (h2 : n < 64) : k + 1 ≤ 48 := by omega
theorem less64 (n : Nat) (h : n < 64) : 63 - n < 64 - n := by omega
theorem still_left {P : Program} {f : FuncId} {args : Array Value} {w : World} {v : Value} (h : Calls P f args w fun e w' => e = .returned v ∧ w = w') : Calls P f args w fun e w' => e = .returned v ∧ w' = w :=
  h.mono fun _ _ ⟨he, hm⟩ => ⟨he, hm.symm⟩
theorem u32_xor_of {a b c : Nat} (ha : a < 4294967296) (hb : b < 4294967296) (h : a ^^^ b = c) : bits .xor .u32 (a : Int) (b : Int) = (c : Int) := by rw [u32_xor_nat a b ha hb, h]
theorem xor_lt32 {a b : Nat} (ha : a < 4294967296) (hb : b < 4294967296) : a ^^^ b < 4294967296 := Nat.xor_lt_two_pow (n := 32) ha hb
theorem u32_add_of {a b c : Nat} (h : (a + b) % 4294967296 = c) : IntKind.u32.wrap ((a : Int) + (b : Int)) = (c : Int) := by rw [IntKind.wrap_u32, ← h]; omega
theorem nextW_at (ws : List Nat) (n : Nat) (hn : ws.length = n) (h16 : 16 ≤ n) : nextW ws = low32 (ws[n - 16]'(by omega) + sg0 (ws[n - 15]'(by omega)) + ws[n - 7]'(by omega) + sg1 (ws[n - 2]'(by omega))) := by
  unfold nextW
  simp only [hn, List.getD_eq_getElem?_getD, List.getElem?_eq_getElem (show n - 16 < ws.length by omega), List.getElem?_eq_getElem (show n - 15 < ws.length by omega), List.getElem?_eq_getElem (show n - 7 < ws.length by omega), List.getElem?_eq_getElem (show n - 2 < ws.length by omega), Option.getD_some]
theorem fillW_cell {w : World} {T : Nat} {l : List Nat} (h : w.heap[T]? = some (.cells (arrW (fillW l)) 61 (0, 0))) (k : Nat) (hk : k < l.length) : w.cell? ⟨T, k, none⟩ = some (.int .u32 ((l[k] : Nat) : Int)) := by
  rw [cell_of_row _ _ _ _ _ _ h]
  exact arrW_get _ _ _ (fillW_get l k hk)
theorem fillW_old {w : World} {T : Nat} {l : List Nat} (h : w.heap[T]? = some (.cells (arrW (fillW l)) 61 (0, 0))) (k : Nat) (hl : l.length ≤ 64) (hk : k < 64) : ∃ old : Nat, w.cell? ⟨T, k, none⟩ = some (.int .u32 (old : Int)) := by
  have hk' : k < (fillW l).length := by rw [fillW_length _ hl]; exact hk
  refine ⟨(fillW l)[k], ?_⟩
  rw [cell_of_row _ _ _ _ _ _ h]
  exact arrW_get _ _ _ (List.getElem?_eq_getElem hk')
theorem u32_small (x : Nat) (h : x < 4294967296) : IntKind.u32.wrap (x : Int) = (x : Int) := by rw [IntKind.wrap_u32]; omega
theorem word_or (x0 x1 x2 x3 : Nat) (h0 : x0 < 256) (h1 : x1 < 256) (h2 : x2 < 256) (h3 : x3 < 256) :
    bits .or .u32 (bits .or .u32 (bits .or .u32 (IntKind.u32.wrap (IntKind.u32.wrap (x0 : Int) * 16777216)) (IntKind.u32.wrap (IntKind.u32.wrap (x1 : Int) * 65536))) (IntKind.u32.wrap (IntKind.u32.wrap (x2 : Int) * 256))) (IntKind.u32.wrap (x3 : Int)) =
      ((x0 * 16777216 + x1 * 65536 + x2 * 256 + x3 : Nat) : Int) := by
  rw [u32_small x0 (by omega), u32_small x1 (by omega), u32_small x2 (by omega), u32_small x3 (by omega)]
  rw [show (x0 : Int) * 16777216 = ((x0 * 16777216 : Nat) : Int) by omega, show (x1 : Int) * 65536 = ((x1 * 65536 : Nat) : Int) by omega, show (x2 : Int) * 256 = ((x2 * 256 : Nat) : Int) by omega]
  rw [u32_small _ (by omega), u32_small _ (by omega), u32_small _ (by omega)]
  rw [u32_or_nat _ _ (by omega) (by omega), nat_join 24 _ _ (by omega) (by omega)]
  rw [u32_or_nat _ _ (by omega) (by omega), nat_join 16 _ _ (by omega) (by omega)]
  rw [u32_or_nat _ _ (by omega) (by omega), nat_join 8 _ _ (by omega) (by omega)]
set_option maxRecDepth 100000 in
set_option maxHeartbeats 8000000 in
theorem spread_any (b : Nat) (l : List UInt8) (w : World) (hl : l.length = 64) (hb : BlockAt w b l) :
    Calls Try.prog 44 #[.pointer (some ⟨b, 0, none⟩)] w fun e w' => e = .returned (.agg (arrW (wordsOf l))) ∧ Below w.heap.size w w' := by
  obtain ⟨Z, hZ, hZ2⟩ : ∃ Z : Array Value, Z = #[.int .u32 0, .int .u32 0, .int .u32 0, .int .u32 0, .int .u32 0, .int .u32 0, .int .u32 0, .int .u32 0, .int .u32 0, .int .u32 0, .int .u32 0, .int .u32 0, .int .u32 0, .int .u32 0, .int .u32 0, .int .u32 0, .int .u32 0, .int .u32 0, .int .u32 0, .int .u32 0, .int .u32 0, .int .u32 0, .int .u32 0, .int .u32 0, .int .u32 0, .int .u32 0, .int .u32 0, .int .u32 0, .int .u32 0, .int .u32 0, .int .u32 0, .int .u32 0, .int .u32 0, .int .u32 0, .int .u32 0, .int .u32 0, .int .u32 0, .int .u32 0, .int .u32 0, .int .u32 0, .int .u32 0, .int .u32 0, .int .u32 0, .int .u32 0, .int .u32 0, .int .u32 0, .int .u32 0, .int .u32 0, .int .u32 0, .int .u32 0, .int .u32 0, .int .u32 0, .int .u32 0, .int .u32 0, .int .u32 0, .int .u32 0, .int .u32 0, .int .u32 0, .int .u32 0, .int .u32 0, .int .u32 0, .int .u32 0, .int .u32 0, .int .u32 0] ∧ Z = arrW (fillW []) := ⟨_, rfl, rfl⟩
  have g1 : ((w.alloc (.cells Z 61)).alloc (.cells Z 61)).heap[w.heap.size]? = some (.cells Z 61) := heap_alloc2_old _ _ _
  have g2 : ((w.alloc (.cells Z 61)).alloc (.cells Z 61)).heap[w.heap.size + 1]? = some (.cells Z 61) := heap_alloc2_new _ _ _
  have hb0 : Below w.heap.size w ((w.alloc (.cells Z 61)).alloc (.cells Z 61)) := ((Below.refl _ _).alloc (Nat.le_refl _) _).alloc (by simp) _
  have hblt : b < w.heap.size := (Array.getElem?_eq_some_iff.1 hb).1
  have G1 := Lib.hid g1; clear g1
  have G2 := Lib.hid g2; clear g2
  have HZ := Lib.hid hZ; clear hZ
  have HZ2 := Lib.hid hZ2; clear hZ2
  have HB := Lib.hid hb; clear hb
  have L0 := Lib.hid hb0; clear hb0
  have HL := Lib.hid hl; clear hl
  go_enter Try.func44, Try.ntmps44
  go_wp2
  rw [← HZ.out]
  generalize (w.alloc (.cells Z 61)).alloc (.cells Z 61) = W2 at *
  obtain ⟨T, hT⟩ : ∃ T, T = w.heap.size + 1 := ⟨_, rfl⟩
  rw [← hT] at G2 ⊢
  have hTw : w.heap.size < T := by omega
  have HTT := Lib.hid hT; clear hT
  clear HZ
  go_loopw [8] (fun i wr => ∃ k : Nat, k ≤ 16 ∧ i = .int .i64 k ∧ wr.heap[T]? = some (.cells (arrW (fillW (words16 l k))) 61 (0, 0)) ∧ wr.heap[w.heap.size]? = some (.cells Z 61 (0, 0)) ∧ Below w.heap.size w wr) (fun i _ => 16 - (intOf i).toNat)
  case atStart => exact ⟨0, by omega, rfl, by rw [show words16 l 0 = [] from rfl, ← HZ2.out]; exact G2.out, G1.out, L0.out⟩
  case round =>
    obtain ⟨k, hk, rfl, hheap, hres, hbel⟩ := hrel
    have hwl := words16_length l k
    have Hres := Lib.hid hres; clear hres
    by_cases hlt : k < 16
    · have hbk : BlockAt wr b l := (hbel.block b hblt).trans HB.out
      have c0 := hbk.at' (4 * k) (by rw [HL.out]; omega)
      have c1 := hbk.at' (4 * k + 1) (by rw [HL.out]; omega)
      have c2 := hbk.at' (4 * k + 2) (by rw [HL.out]; omega)
      have c3 := hbk.at' (4 * k + 3) (by rw [HL.out]; omega)
      have WB := Lib.hid (wordB_at l k HL.out hlt)
      have b0 := (l[4 * k]'(by rw [HL.out]; omega)).toNat_lt
      have b1 := (l[4 * k + 1]'(by rw [HL.out]; omega)).toNat_lt
      have b2 := (l[4 * k + 2]'(by rw [HL.out]; omega)).toNat_lt
      have b3 := (l[4 * k + 3]'(by rw [HL.out]; omega)).toNat_lt
      generalize (l[4 * k]'(by rw [HL.out]; omega)).toNat = x0 at *
      generalize (l[4 * k + 1]'(by rw [HL.out]; omega)).toNat = x1 at *
      generalize (l[4 * k + 2]'(by rw [HL.out]; omega)).toNat = x2 at *
      generalize (l[4 * k + 3]'(by rw [HL.out]; omega)).toNat = x3 at *
      have i0 : IntKind.i64.wrap (4 * (k : Int)) = ((4 * k : Nat) : Int) := by rw [IntWalk.i64_in _ (by omega)]; omega
      obtain ⟨q, hq⟩ : ∃ q, q = 4 * k := ⟨_, rfl⟩
      rw [← hq] at i0 c0 c1 c2 c3
      obtain ⟨q1, hq1⟩ : ∃ q1, q1 = q + 1 := ⟨_, rfl⟩
      obtain ⟨q2, hq2⟩ : ∃ q1, q1 = q + 2 := ⟨_, rfl⟩
      obtain ⟨q3, hq3⟩ : ∃ q1, q1 = q + 3 := ⟨_, rfl⟩
      have i1 : IntKind.i64.wrap ((q : Int) + 1) = (q1 : Int) := by rw [IntWalk.i64_in _ (by omega)]; omega
      have i2 : IntKind.i64.wrap ((q : Int) + 2) = (q2 : Int) := by rw [IntWalk.i64_in _ (by omega)]; omega
      have i3 : IntKind.i64.wrap ((q : Int) + 3) = (q3 : Int) := by rw [IntWalk.i64_in _ (by omega)]; omega
      rw [← hq1] at c1
      rw [← hq2] at c2
      rw [← hq3] at c3
      have j0 : (q : Int) < 64 := by omega
      have j1 : (q1 : Int) < 64 := by omega
      have j2 : (q2 : Int) < 64 := by omega
      have j3 : (q3 : Int) < 64 := by omega
      have p0 : (0 : Int) ≤ (q : Int) := by omega
      have p1 : (0 : Int) ≤ (q1 : Int) := by omega
      have p2 : (0 : Int) ≤ (q2 : Int) := by omega
      have p3 : (0 : Int) ≤ (q3 : Int) := by omega
      have WO := word_or x0 x1 x2 x3 b0 b1 b2 b3
      rw [← WB.out] at WO
      obtain ⟨x, hx⟩ : ∃ x, wordB l k = x := ⟨_, rfl⟩
      rw [hx] at WO
      have WX := Lib.hid hx; clear hx WB
      have kk : (k : Int) < 64 := by omega
      have k0 : (0 : Int) ≤ (k : Int) := by omega
      clear hq1 hq2 hq3
      clear hq
      have hcell : wr.cell? ⟨T, k, none⟩ = some (.int .u32 (((fillW (words16 l k))[k]'(by rw [fillW_length _ (by omega)]; omega) : Nat) : Int)) := by
        rw [cell_of_row _ _ _ _ _ _ hheap]
        exact arrW_get _ _ _ (List.getElem?_eq_getElem _)
      have hfr := frozen_of_row wr T k _ _ hheap
      generalize ((fillW (words16 l k))[k]'(by rw [fillW_length _ (by omega)]; omega) : Nat) = old at *
      have Hh := Lib.hid hheap; clear hheap hbk
      have Hwl := Lib.hid hwl; clear hwl
      go_wp2
      go_still_tail 39, (by kernel_rfl)
      change wpList _ _ _ _ _ wr.drew
      go_wp2
      go_roundw
      case rel =>
        refine ⟨k + 1, by omega, by go_num, ?_, ?_, Below_drew (hbel.setCell (p := ⟨T, k, none⟩) (Nat.le_of_lt hTw) _)⟩
        · show ((wr.setCell ⟨T, k, none⟩ _).drew).heap[T]? = _
          rw [show words16 l (k + 1) = words16 l k ++ [wordB l k] from rfl, ← fillW_set _ _ (by rw [Hwl.out]; omega), Hwl.out, ← arrW_set, WX.out]
          exact heap_setCell_same wr T k _ _ _ Hh.out
        · show (wr.setCell ⟨T, k, none⟩ _).heap[w.heap.size]? = _
          rw [heap_setCell_other _ _ _ _ (by exact Nat.ne_of_lt hTw)]
          exact Hres.out
      case measure => simp [intOf]; omega
    · have hk16 : k = 16 := by omega
      have h16 : 16 ≤ k := by omega
      have hh := hheap
      rw [hk16] at hh
      have Hh := Lib.hid hh; clear hh hheap hwl
      have Hk := Lib.hid hk16; clear hk16
      go_wp2
      go_loopw [5] (fun i wr => ∃ k : Nat, k ≤ 48 ∧ i = .int .i64 ((16 + k : Nat) : Int) ∧ wr.heap[T]? = some (.cells (arrW (fillW (wordsN (words16 l 16) k))) 61 (0, 0)) ∧ wr.heap[w.heap.size]? = some (.cells Z 61 (0, 0)) ∧ Below w.heap.size w wr) (fun i _ => 64 - (intOf i).toNat)
      case atStart => exact ⟨0, by omega, rfl, Hh.out, Hres.out, hbel⟩
      case round =>
        clear hbel Hh hlt h16 Hk hk Hres
        obtain ⟨k, hk, rfl, hheap, hres, hbel⟩ := hrel
        have hwl := wordsN_length (words16 l 16) k
        rw [words16_length] at hwl
        have Hres := Lib.hid hres; clear hres
        obtain ⟨n, hn⟩ : ∃ n, n = 16 + k := ⟨_, rfl⟩
        rw [← hn] at hwl ⊢
        have hWlt := wordsN_lt _ (words16_lt l 16) k
        by_cases hlt : n < 64
        · obtain ⟨old, hcell⟩ := fillW_old hheap n (by omega) hlt
          have hfr := frozen_of_row wr T n _ _ hheap
          have c16 := fillW_cell hheap (n - 16) (by omega)
          have c15 := fillW_cell hheap (n - 15) (by omega)
          have c7 := fillW_cell hheap (n - 7) (by omega)
          have c2 := fillW_cell hheap (n - 2) (by omega)
          have NX := nextW_at (wordsN (words16 l 16) k) n hwl (by omega)
          have d16 := hWlt _ (List.getElem_mem (show n - 16 < (wordsN (words16 l 16) k).length by omega))
          have d15 := hWlt _ (List.getElem_mem (show n - 15 < (wordsN (words16 l 16) k).length by omega))
          have d7 := hWlt _ (List.getElem_mem (show n - 7 < (wordsN (words16 l 16) k).length by omega))
          have d2 := hWlt _ (List.getElem_mem (show n - 2 < (wordsN (words16 l 16) k).length by omega))
          have FS := Lib.hid (fillW_set (wordsN (words16 l 16) k) (nextW (wordsN (words16 l 16) k)) (by omega))
          generalize (wordsN (words16 l 16) k)[n - 16]'(by omega) = z16 at *
          generalize (wordsN (words16 l 16) k)[n - 15]'(by omega) = x at *
          generalize (wordsN (words16 l 16) k)[n - 7]'(by omega) = z7 at *
          generalize (wordsN (words16 l 16) k)[n - 2]'(by omega) = y at *
          have R7 := fun w' => Lib.hid (right_any x 7 w' d15 (by decide) (by decide))
          have R18 := fun w' => Lib.hid (right_any x 18 w' d15 (by decide) (by decide))
          have R17 := fun w' => Lib.hid (right_any y 17 w' d2 (by decide) (by decide))
          have R19 := fun w' => Lib.hid (right_any y 19 w' d2 (by decide) (by decide))
          have l7 := rotr_lt x 7 d15
          have l18 := rotr_lt x 18 d15
          have l17 := rotr_lt y 17 d2
          have l19 := rotr_lt y 19 d2
          unfold sg0 sg1 low32 at NX
          generalize rotr x 7 = r7 at *
          generalize rotr x 18 = r18 at *
          generalize rotr y 17 = r17 at *
          generalize rotr y 19 = r19 at *
          obtain ⟨a1, ha1⟩ : ∃ a, r7 ^^^ r18 = a := ⟨_, rfl⟩
          obtain ⟨x8, hx8⟩ : ∃ a, x / 8 = a := ⟨_, rfl⟩
          obtain ⟨s0, hs0⟩ : ∃ a, a1 ^^^ x8 = a := ⟨_, rfl⟩
          obtain ⟨a2, ha2⟩ : ∃ a, r17 ^^^ r19 = a := ⟨_, rfl⟩
          obtain ⟨y10, hy10⟩ : ∃ a, y / 1024 = a := ⟨_, rfl⟩
          obtain ⟨s1, hs1⟩ : ∃ a, a2 ^^^ y10 = a := ⟨_, rfl⟩
          rw [ha1, hx8, hs0, ha2, hy10, hs1] at NX
          obtain ⟨nx, hnx⟩ : ∃ a, nextW (wordsN (words16 l 16) k) = a := ⟨_, rfl⟩
          rw [hnx] at NX FS
          obtain ⟨m1, hm1⟩ : ∃ m, (z16 + s0) % 4294967296 = m := ⟨_, rfl⟩
          obtain ⟨m2, hm2⟩ : ∃ m, (m1 + z7) % 4294967296 = m := ⟨_, rfl⟩
          have X1 := u32_xor_of l7 l18 ha1
          have X2 := u32_xor_of (by rw [← ha1]; exact xor_lt32 l7 l18) (by omega) hs0
          have X3 := u32_xor_of l17 l19 ha2
          have X4 := u32_xor_of (by rw [← ha2]; exact xor_lt32 l17 l19) (by omega) hs1
          have A1 := u32_add_of hm1
          have A2 := u32_add_of hm2
          have A3 : IntKind.u32.wrap ((m2 : Int) + (s1 : Int)) = (nx : Int) := u32_add_of (by rw [NX]; omega)
          have x8' : (x : Int) / 8 = (x8 : Int) := by omega
          have y10' : (y : Int) / 1024 = (y10 : Int) := by omega
          have NXH := Lib.hid hnx
          clear NX ha1 hx8 hs0 ha2 hy10 hs1 hm1 hm2 hnx
          obtain ⟨n16, hn16⟩ : ∃ m, m = n - 16 := ⟨_, rfl⟩
          obtain ⟨n15, hn15⟩ : ∃ m, m = n - 15 := ⟨_, rfl⟩
          obtain ⟨n7, hn7⟩ : ∃ m, m = n - 7 := ⟨_, rfl⟩
          obtain ⟨n2, hn2⟩ : ∃ m, m = n - 2 := ⟨_, rfl⟩
          rw [← hn16] at c16
          rw [← hn15] at c15
          rw [← hn7] at c7
          rw [← hn2] at c2
          have w16 : IntKind.i64.wrap ((n : Int) - 16) = (n16 : Int) := by rw [IntWalk.i64_in _ (by omega)]; omega
          have w15 : IntKind.i64.wrap ((n : Int) - 15) = (n15 : Int) := by rw [IntWalk.i64_in _ (by omega)]; omega
          have w7 : IntKind.i64.wrap ((n : Int) - 7) = (n7 : Int) := by rw [IntWalk.i64_in _ (by omega)]; omega
          have w2 : IntKind.i64.wrap ((n : Int) - 2) = (n2 : Int) := by rw [IntWalk.i64_in _ (by omega)]; omega
          have q16 : (n16 : Int) < 64 := by omega
          have q15 : (n15 : Int) < 64 := by omega
          have q7 : (n7 : Int) < 64 := by omega
          have q2 : (n2 : Int) < 64 := by omega
          have o16 : (0 : Int) ≤ (n16 : Int) := by omega
          have o15 : (0 : Int) ≤ (n15 : Int) := by omega
          have o7 : (0 : Int) ≤ (n7 : Int) := by omega
          have o2 : (0 : Int) ≤ (n2 : Int) := by omega
          have on : (0 : Int) ≤ (n : Int) := by omega
          have qn : (n : Int) < 64 := by omega
          have HN := Lib.hid hn
          have Hwl := Lib.hid hwl
          clear hn16 hn15 hn7 hn2 hWlt hn hwl
          have Hh := Lib.hid hheap; clear hheap
          have CK := Lib.hid (fun (m : Nat) => show (wr.drewN m).cell? ⟨T, n16, none⟩ = some (.int .u32 (z16 : Int)) ∧ (wr.drewN m).cell? ⟨T, n7, none⟩ = some (.int .u32 (z7 : Int)) ∧ (wr.drewN m).cell? ⟨T, n, none⟩ = some (.int .u32 (old : Int)) ∧ (wr.drewN m).frozen? ⟨T, n, none⟩ = false ∧
              Below w.heap.size w (wr.drewN m) ∧ (wr.drewN m).heap[T]? = some (.cells (arrW (fillW (wordsN (words16 l 16) k))) 61 (0, 0)) ∧ (wr.drewN m).heap[w.heap.size]? = some (.cells Z 61 (0, 0)) from ⟨c16, c7, hcell, hfr, Below_drewN hbel m, Hh.out, Hres.out⟩)
          go_wp2
          go_quiet (fail)
          go_wp2
          obtain ⟨k16, k7, kn, kf, kb, kh, kr⟩ := CK.out nq
          have Kb := Lib.hid kb
          have Kh := Lib.hid kh
          have Kr := Lib.hid kr
          clear kb kh kr CK hbel Hh Hres c16 c7 hcell hfr c15 c2
          generalize wr.drewN nq = w5 at *
          refine wp_region_still_tail 29 (by kernel_rfl) (by kernel_rfl) ?_
          simp only [List.take_succ_cons, List.take_zero, List.drop_succ_cons, List.drop_zero]
          iterate 6 still_step
          still_call (still_left (R7 _).out)
          still_step
          still_call (still_left (R18 _).out)
          iterate 11 still_step
          still_call (still_left (R17 _).out)
          still_step
          still_call (still_left (R19 _).out)
          iterate 6 still_step
          refine wpStill_nil ?_
          change wpList _ _ _ _ _ w5.drew
          go_wp2
          go_roundw
          case rel =>
            refine ⟨k + 1, le48 n k HN.out hlt, by rw [HN.out]; go_num, ?_, ?_, Below_drew (Kb.out.setCell (p := ⟨T, n, none⟩) (Nat.le_of_lt hTw) _)⟩
            · show (w5.setCell ⟨T, n, none⟩ _).heap[T]? = _
              rw [show wordsN (words16 l 16) (k + 1) = wordsN (words16 l 16) k ++ [nextW (wordsN (words16 l 16) k)] from rfl, NXH.out, ← FS.out, Hwl.out, ← arrW_set]
              exact heap_setCell_same w5 T n _ _ _ Kh.out
            · show (w5.setCell ⟨T, n, none⟩ _).heap[w.heap.size]? = _
              rw [heap_setCell_other _ _ _ _ (by exact Nat.ne_of_lt hTw)]
              exact Kr.out
          case measure => simp [intOf]; exact less64 n hlt
        · have hk48 : k = 48 := by omega
          have hh := hheap
          rw [hk48, fillW_full _ (by rw [wordsN_length, words16_length])] at hh
          have hh2 : wr.heap[T]? = some (.cells (arrW (wordsOf l)) 61 (0, 0)) := hh
          have hzs : Z.size = 64 := by rw [HZ2.out, arrW_size]; rfl
          have AW := arrW_size (wordsOf l)
          rw [wordsOf_length] at AW
          have ONE := arrW_one (wordsOf l)
          obtain ⟨C, hC⟩ : ∃ C, arrW (wordsOf l) = C := ⟨_, rfl⟩
          rw [hC] at AW ONE hh2
          have HC := Lib.hid hC; clear hC
          have Hh := Lib.hid hh2
          have HZs := Lib.hid hzs
          have HAW := Lib.hid AW
          have HONE := Lib.hid ONE
          have hn64 : 64 ≤ n := by omega
          clear hh hh2 hheap AW hWlt hk48 hwl hzs ONE HZ2 L0 G1 G2 hn
          go_wp2_with (first
            | ((with_reducible refine wpList_load_row rfl 61 (.tmp 3) rfl T rfl _ C _ _ Hh.out Try.underlying61 rfl (by rw [HAW.out]; exact info_w64) ?_))
            | ((with_reducible refine wpList_store_row rfl 61 (.tmp 2) (.tmp 92) rfl w.heap.size C rfl rfl _ Z Hres.out (by rw [HAW.out]; exact info_w64) (by rw [HAW.out]; exact HZs.out) HONE.out ?_)))
          go_wp2
          exact bodyPost_ret (v := .agg C) (results_cell_row Try.results44 _ _ w.heap.size _ C _ _ rfl (setRow_heap _ _ _ _ _ _ Hres.out) Try.underlying61 rfl (by rw [HAW.out]; exact info_w64)) rfl ⟨by rw [HC.out], Below_setRow hbel (Nat.le_refl _) _⟩
end Go.Proofs.Ytbiahhngeldhbaa
