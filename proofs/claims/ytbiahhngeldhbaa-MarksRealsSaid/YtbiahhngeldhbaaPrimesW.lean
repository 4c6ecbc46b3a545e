/- The walk of primes. -/
import Derived.Test.YtbiahhngeldhbaaPrimeMath
import Derived.Test.YtbiahhngeldhbaaRootW
import Derived.Test.YtbiahhngeldhbaaSpreadW
import Derived.Deep.LoopGhost
set_option linter.unusedVariables false
namespace Go.Proofs.Ytbiahhngeldhbaa
open Go.RowKit

/-- Numbers of 64 bits as a block's cells. -/
def arrU (l : List Nat) : Array Value := (l.map fun x : Nat => Value.int .u64 (x : Int)).toArray
theorem arrU_size (l : List Nat) : (arrU l).size = l.length := by simp [arrU]
theorem arrU_get (l : List Nat) (k x : Nat) (h : l[k]? = some x) : (arrU l)[k]? = some (.int .u64 (x : Int)) := by
  unfold arrU
  simp [h]
theorem arrU_set (l : List Nat) (k x : Nat) : (arrU l).setIfInBounds k (.int .u64 (x : Int)) = arrU (l.set k x) := by
  unfold arrU
  rw [List.setIfInBounds_toArray, List.map_set]
theorem arrU_one (l : List Nat) : (arrU l).all (·.oneCell') = true := by
  rw [Array.all_eq_true_iff_forall_mem]
  intro v hv
  simp only [arrU, List.mem_toArray, List.mem_map] at hv
  obtain ⟨j, _, rfl⟩ := hv
  rfl
theorem info_u64 : (Try.prog.info? 65).map (·.size) = some 64 := by kernel_rfl
/-- The first f primes, and nothing behind, in block T. -/
def PrAt (w : World) (T f : Nat) : Prop := w.heap[T]? = some (.cells (arrU (fillW (PL.take f))) 65 (0, 0))
theorem take_len (f : Nat) (h : f ≤ 64) : (PL.take f).length = f := by rw [List.length_take, PL_length]; omega
theorem PrAt.cell {w : World} {T f : Nat} (h : PrAt w T f) (hf : f ≤ 64) (i : Nat) (hi : i < f) : w.cell? ⟨T, i, none⟩ = some (.int .u64 ((pr i : Nat) : Int)) := by
  rw [cell_of_row _ _ _ _ _ _ h]
  refine arrU_get _ _ _ ?_
  rw [fillW_get _ i (by rw [take_len f hf]; exact hi), List.getElem_take]
  congr 1
  unfold pr
  simp [List.getD_eq_getElem?_getD, PL_length, show i < 64 by omega]
theorem PrAt.old {w : World} {T f : Nat} (h : PrAt w T f) (hf : f < 64) : ∃ old : Nat, w.cell? ⟨T, f, none⟩ = some (.int .u64 (old : Int)) := by
  have hk' : f < (fillW (PL.take f)).length := by rw [fillW_length _ (by rw [take_len f (by omega)]; omega)]; exact hf
  refine ⟨(fillW (PL.take f))[f], ?_⟩
  rw [cell_of_row _ _ _ _ _ _ h]
  exact arrU_get _ _ _ (List.getElem?_eq_getElem hk')
theorem PrAt.set {w : World} {T f n : Nat} (h : PrAt w T f) (hf : f < 64) (hn : pr f = n) : PrAt (w.setCell ⟨T, f, none⟩ (.int .u64 (n : Int))) T (f + 1) := by
  have h1 : (w.setCell ⟨T, f, none⟩ (.int .u64 (n : Int))).heap[T]? = _ := heap_setCell_same w T f _ _ _ h
  unfold PrAt
  have e := fillW_set (PL.take f) n (by rw [take_len f (by omega)]; exact hf)
  rw [take_len f (by omega)] at e
  rw [take_pr f hf, hn, ← e, ← arrU_set]
  exact h1

/-- What a prime found leaves. -/
structure NextP (w wr : World) (Z : Array Value) (T f n : Nat) : Prop where
  cnt : f + 1 = cntP (n + 1)
  row : PrAt (wr.setCell ⟨T, f, none⟩ (.int .u64 (n : Int))) T (f + 1)
  res : (wr.setCell ⟨T, f, none⟩ (.int .u64 (n : Int))).heap[w.heap.size]? = some (.cells Z 65 (0, 0))
  bel : Below w.heap.size w (wr.setCell ⟨T, f, none⟩ (.int .u64 (n : Int)))
theorem NextP.of {w wr : World} {Z : Array Value} {T f n : Nat} (hf : f = cntP n) (hn : n < 312) (hlt : f < 64) (hT : w.heap.size < T) (hpr : PrAt wr T f) (hres : wr.heap[w.heap.size]? = some (.cells Z 65 (0, 0))) (hbel : Below w.heap.size w wr) (h : n ∈ PL) : NextP w wr Z T f n := by
  have e := pr_new n hn h
  refine ⟨by rw [e.1, hf], hpr.set hlt (by rw [hf]; exact e.2), ?_, hbel.setCell (p := ⟨T, f, none⟩) (Nat.le_of_lt hT) _⟩
  rw [heap_setCell_other _ _ _ _ (by exact Nat.ne_of_lt hT)]
  exact hres
/-- All 64 found. -/
theorem PrAt.all {w : World} {T : Nat} (h : PrAt w T 64) : w.heap[T]? = some (.cells (arrU PL) 65 (0, 0)) := h

set_option maxRecDepth 100000 in
set_option maxHeartbeats 2000000 in
theorem primes_any (w : World) :
    Calls Try.prog 36 #[] w fun e w' => e = .returned (.agg (arrU PL)) ∧ Below w.heap.size w w' := by
  obtain ⟨Z, hZ, hZ2⟩ : ∃ Z : Array Value, Z = #[.int .u64 0, .int .u64 0, .int .u64 0, .int .u64 0, .int .u64 0, .int .u64 0, .int .u64 0, .int .u64 0, .int .u64 0, .int .u64 0, .int .u64 0, .int .u64 0, .int .u64 0, .int .u64 0, .int .u64 0, .int .u64 0, .int .u64 0, .int .u64 0, .int .u64 0, .int .u64 0, .int .u64 0, .int .u64 0, .int .u64 0, .int .u64 0, .int .u64 0, .int .u64 0, .int .u64 0, .int .u64 0, .int .u64 0, .int .u64 0, .int .u64 0, .int .u64 0, .int .u64 0, .int .u64 0, .int .u64 0, .int .u64 0, .int .u64 0, .int .u64 0, .int .u64 0, .int .u64 0, .int .u64 0, .int .u64 0, .int .u64 0, .int .u64 0, .int .u64 0, .int .u64 0, .int .u64 0, .int .u64 0, .int .u64 0, .int .u64 0, .int .u64 0, .int .u64 0, .int .u64 0, .int .u64 0, .int .u64 0, .int .u64 0, .int .u64 0, .int .u64 0, .int .u64 0, .int .u64 0, .int .u64 0, .int .u64 0, .int .u64 0, .int .u64 0] ∧ Z = arrU (fillW (PL.take 0)) := ⟨_, rfl, rfl⟩
  have g1 : ((w.alloc (.cells Z 65)).alloc (.cells Z 65)).heap[w.heap.size]? = some (.cells Z 65) := heap_alloc2_old _ _ _
  have g2 : ((w.alloc (.cells Z 65)).alloc (.cells Z 65)).heap[w.heap.size + 1]? = some (.cells Z 65) := heap_alloc2_new _ _ _
  have hb0 : Below w.heap.size w ((w.alloc (.cells Z 65)).alloc (.cells Z 65)) := ((Below.refl _ _).alloc (Nat.le_refl _) _).alloc (by simp) _
  have G1 := Lib.hid g1
  have G2 : Hid (PrAt ((w.alloc (.cells Z 65)).alloc (.cells Z 65)) (w.heap.size + 1) 0) := Lib.hid (by unfold PrAt; rw [← hZ2]; exact g2)
  have hzs : Z.size = 64 := by rw [hZ]; rfl
  have HZ := Lib.hid hZ
  have HZs := Lib.hid hzs
  have L0 := Lib.hid hb0
  clear g1 g2 hb0 hZ hZ2 hzs
  go_enter Try.func36, Try.ntmps36
  go_wp2
  go_step3
  go_wp2
  rw [← HZ.out]
  generalize (w.alloc (.cells Z 65)).alloc (.cells Z 65) = W2 at *
  obtain ⟨T, hT⟩ : ∃ T, T = w.heap.size + 1 := ⟨_, rfl⟩
  rw [← hT] at G2 ⊢
  have hTw : w.heap.size < T := by omega
  clear HZ hT
  go_step3
  go_wp2
  go_loopg [2, 3] 400 (fun g a b wr => ∃ (f n : Nat), n + g = 402 ∧ f = cntP n ∧ 2 ≤ n ∧ n ≤ 312 ∧ a = .int .i64 f ∧ b = .int .u64 n ∧ PrAt wr T f ∧ wr.heap[w.heap.size]? = some (.cells Z 65 (0, 0)) ∧ Below w.heap.size w wr)
  case atStart => exact ⟨0, 2, by decide, cntP_two.symm, by decide, by decide, rfl, rfl, G2.out, G1.out, L0.out⟩
  case round =>
    obtain ⟨f, n, hg, hf, h2, hn, rfl, rfl, hpr, hres, hbel⟩ := hrel
    have HF := Lib.hid hf
    have HPR := Lib.hid hpr
    have HRES := Lib.hid hres
    have HB := Lib.hid hbel
    have hf64 : f ≤ 64 := by rw [hf]; exact cntP_le n
    clear hf hres hbel
    by_cases hlt : f < 64
    · have hn312 : n < 312 := by
        rcases Nat.lt_or_ge n 312 with h | h
        · exact h
        · have e : n = 312 := by omega
          have := HF.out
          rw [e, cntP_all] at this
          omega
      obtain ⟨old, hold⟩ := hpr.old hlt
      have hfr := frozen_of_row wr T f _ _ hpr
      have HC := Lib.hid (fun i (hi : i < f) => hpr.cell hf64 i hi)
      have HNX := Lib.hid (fun h => NextP.of HF.out hn312 hlt hTw hpr HRES.out HB.out h)
      have HOLD := Lib.hid (fun h : n ∉ PL => (HF.out.trans (pr_old n hn312 h).symm))
      have fq : (f : Int) < 64 := by omega
      have f0 : (0 : Int) ≤ (f : Int) := by omega
      have fle : (f : Int) ≤ 64 := by omega
      clear hpr
      obtain ⟨wo, rfl⟩ : ∃ wo : World, wo = wr := ⟨_, rfl⟩
      go_wp2
      go_loopg [13] f (fun g i wi => wi = wo ∧ ∃ k : Nat, k + g = f ∧ i = .int .i64 k ∧ Tried n k)
      case atStart => exact ⟨rfl, 0, by omega, rfl, Tried.zero n⟩
      case round =>
        obtain ⟨rfl, k, hk, rfl, htr⟩ := hrel
        have HTR := Lib.hid htr
        clear htr
        by_cases hkf : k < f
        · have hc := HC.out k hkf
          have hpb := pr_bound k (by omega)
          have HP1 := Lib.hid (fun h => tried_prime n k hn312 h2 HTR.out (.inr h) (by rw [← HF.out]; omega))
          have HP2 := Lib.hid (fun h => pr_ndiv n hn312 h k (by rw [← HF.out]; exact hkf))
          have HP3 := Lib.hid (fun h1 h2 => HTR.out.next h1 h2)
          generalize pr k = p at *
          have hki : (k : Int) < (f : Int) := by omega
          obtain ⟨q, hq⟩ : ∃ q, q = p * p := ⟨_, rfl⟩
          obtain ⟨r, hr⟩ : ∃ r, r = n % p := ⟨_, rfl⟩
          have hqb : q < 100000 := by
            have := Nat.mul_lt_mul'' hpb.2 hpb.2
            omega
          have WQ : IntKind.u64.wrap ((p : Int) * (p : Int)) = (q : Int) := by
            rw [hq, Int.natCast_mul, IntKind.wrap_u64]
            have e : ((p : Int) * (p : Int)) = (q : Int) := by rw [hq, Int.natCast_mul]
            rw [e]
            omega
          have TM : Int.tmod (n : Int) (p : Int) = (r : Int) := by rw [hr]; rfl
          have p0 : ¬ ((p : Int) = 0) := by omega
          have hrb : r < 312 := by rw [hr]; exact Nat.lt_of_le_of_lt (Nat.mod_le _ _) hn312
          have WR : IntKind.u64.wrap (r : Int) = (r : Int) := by rw [IntKind.wrap_u64]; omega
          rw [← hq] at HP1 HP3
          rw [← hr] at HP2 HP3
          have HQ := Lib.hid hq
          have HR := Lib.hid hr
          clear hq hr
          by_cases hgt : n < q
          · have qgt : (n : Int) < (q : Int) := by omega
            have NX := HNX.out (HP1.out hgt)
            have hcn := Lib.hid NX.cnt
            have hrw := Lib.hid NX.row
            have hrs := Lib.hid NX.res
            have hbl := Lib.hid NX.bel
            clear NX
            go_wp2
            go_roundg (401 - n)
            case measure => omega
            case rel => exact ⟨f + 1, n + 1, by omega, hcn.out, by omega, by omega, rfl, rfl, hrw.out, hrs.out, hbl.out⟩
          · have qgt : ¬ ((n : Int) < (q : Int)) := by omega
            by_cases hz : r = 0
            · have hol := Lib.hid (HOLD.out fun h => HP2.out h hz)
              subst hz
              go_wp2
              go_roundg (401 - n)
              case measure => omega
              case rel => exact ⟨f, n + 1, by omega, hol.out, by omega, by omega, rfl, rfl, HPR.out, HRES.out, HB.out⟩
            · have rz : ((r : Int) == 0) = false := by simp; omega
              have rz' : ¬ ((r : Int) = 0) := by omega
              have htr := Lib.hid (HP3.out (by omega) hz)
              go_wp2
              go_roundg (gk - 1)
              case measure => omega
              case rel => exact ⟨rfl, k + 1, by omega, rfl, htr.out⟩
        · have hkf' : k = f := by omega
          have NX := HNX.out (tried_prime n k hn312 h2 HTR.out (.inl (by rw [← HF.out]; exact hkf')) (by rw [← HF.out]; omega))
          have hcn := Lib.hid NX.cnt
          have hrw := Lib.hid NX.row
          have hrs := Lib.hid NX.res
          have hbl := Lib.hid NX.bel
          clear NX
          have hki : ¬ ((k : Int) < (f : Int)) := by omega
          go_wp2
          go_roundg (401 - n)
          case measure => omega
          case rel => exact ⟨f + 1, n + 1, by omega, hcn.out, by omega, by omega, rfl, rfl, hrw.out, hrs.out, hbl.out⟩
    · obtain rfl : f = 64 := by omega
      have hh2 := hpr.all
      have AW := arrU_size PL
      rw [PL_length] at AW
      have ONE := arrU_one PL
      obtain ⟨C, hC⟩ : ∃ C, arrU PL = C := ⟨_, rfl⟩
      rw [hC] at AW ONE hh2
      have HC := Lib.hid hC; clear hC
      have Hh := Lib.hid hh2
      have HAW := Lib.hid AW
      have HONE := Lib.hid ONE
      clear hh2 AW ONE hpr
      go_wp2_with (first
        | ((with_reducible refine wpList_load_row rfl 65 (.tmp 1) rfl T rfl _ C _ _ Hh.out Try.underlying65 rfl (by rw [HAW.out]; exact info_u64) ?_))
        | ((with_reducible refine wpList_store_row rfl 65 (.tmp 0) (.tmp 32) rfl w.heap.size C rfl rfl _ Z HRES.out (by rw [HAW.out]; exact info_u64) (by rw [HAW.out]; exact HZs.out) HONE.out ?_)))
      go_wp2
      rw [Exit.noGoto_ret]
      exact bodyPost_ret (v := .agg C) (results_cell_row Try.results36 _ _ w.heap.size _ C _ _ rfl (setRow_heap _ _ _ _ _ _ HRES.out) Try.underlying65 rfl (by rw [HAW.out]; exact info_u64)) rfl ⟨by rw [HC.out], Below_setRow HB.out (Nat.le_refl _) _⟩
end Go.Proofs.Ytbiahhngeldhbaa
