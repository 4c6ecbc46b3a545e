/- Walks of zerosUpTo. -/
import Derived.Test.YtjgoceebjmnjcaaDoorMap2W
import Derived.Test.YtjgoceebjmnjcaaDoorShelf
import Derived.BigQuiet
import Derived.Deep.QuietTactic
import Derived.Laws.Tables
import Derived.Laws.Rows
import Derived.WalkKit
import Derived.WalkSpells
import Derived.Lib.Hide
import Derived.WalkLawsBesides
import Derived.Outline
import Derived.IntWalk
set_option linter.unusedVariables false
namespace Go.Proofs.YtjgoceebjmnjcaaDoor
open Go.RowKit

theorem lt_bitLen (n : Nat) : ∀ x, x ≤ n → x < 2 ^ 64 → x < 2 ^ Lib.bitLen x := by
  induction n with
  | zero =>
    intro x hx _
    obtain rfl : x = 0 := by omega
    decide
  | succ n ih =>
    intro x hx h
    by_cases h0 : x = 0
    · subst h0; decide
    · rw [Lib.bitLen_half x h0 h, Nat.add_comm, Nat.pow_succ]
      have := ih (x / 2) (by omega) (by omega)
      omega
theorem bitLenAux_le (f x : Nat) : Lib.bitLenAux f x ≤ f := by
  induction f generalizing x with
  | zero => simp [Lib.bitLenAux]
  | succ f ih =>
    unfold Lib.bitLenAux
    split
    · omega
    · have := ih (x / 2); omega
theorem bitLen_le (x : Nat) : Lib.bitLen x ≤ 64 := bitLenAux_le 64 x

/-- The cells of a list of maps: the i-th moves by 2^i bytes. -/
def zcells : Nat → List Value
  | 0 => []
  | n + 1 => zcells n ++ (mapC (8 * 2 ^ n)).toList
theorem zcells_length (n : Nat) : (zcells n).length = n * 32 := by
  induction n with
  | zero => rfl
  | succ n ih => rw [zcells, List.length_append, ih, Array.length_toList, mapC_size]; omega
theorem zcells_get (n i j : Nat) (hi : i < n) (hj : j < 32) : (zcells n)[i * 32 + j]? = some (.int .u32 (stpN (8 * 2 ^ i) (2 ^ j) : Nat)) := by
  induction n with
  | zero => omega
  | succ n ih =>
    rw [zcells]
    by_cases h : i < n
    · rw [List.getElem?_append_left (by rw [zcells_length]; omega)]
      exact ih h
    · have : i = n := by omega
      subst this
      rw [List.getElem?_append_right (by rw [zcells_length]; omega), zcells_length, show i * 32 + j - i * 32 = j from by omega, Array.getElem?_toList]
      exact mapC_get _ _ hj
/-- A list of n maps of the call's own. -/
def ZRow (w : World) (base : Nat) (v : Value) (n : Nat) : Prop := w.ownsRow base 69 32 v n (zcells n)
theorem info_map2 : (Tryd.prog.info? 69).map (fun i => (i.zero.map (·.cells.size), i.size, i.bytes)) = some (some 32, 32, 128) := by kernel_rfl
theorem takeB_bit (j : Nat) : takeB (2 ^ j) 0 = stpN 8 (2 ^ j) := by unfold takeB; rw [Nat.xor_zero]

theorem ZRow.kept {w w' : World} {base : Nat} {v : Value} {n : Nat} (h : ZRow w base v n) (hk : ∀ g, base ≤ g → g < w.heap.size → w'.heap[g]? = w.heap[g]?) : ZRow w' base v n := by
  refine ⟨h.1, ?_⟩
  rcases h.2 with hn | ⟨g, cap, cur, rfl, hg, hgg, rest⟩
  · exact .inl hn
  · exact .inr ⟨g, cap, cur, rfl, hg, (hk g hg (Array.getElem?_eq_some_iff.1 hgg).1).trans hgg, rest⟩
theorem ZRow.mono {w : World} {base base' : Nat} {v : Value} {n : Nat} (h : ZRow w base v n) (hb : base' ≤ base) : ZRow w base' v n := by
  refine ⟨h.1, ?_⟩
  rcases h.2 with hn | ⟨g, cap, cur, rfl, hg, rest⟩
  · exact .inl hn
  · exact .inr ⟨g, cap, cur, rfl, Nat.le_trans hb hg, rest⟩
theorem fold_zip (z cs : Array Value) (h : z.size = cs.size) (N : Nat) (hN : N = cs.size) : Array.foldl (fun (a : Array Value) (x : Value × Nat) => a.setIfInBounds x.2 x.1) z cs.zipIdx 0 N = cs := by
  subst hN
  have hs : cs.zipIdx.size = cs.size := by simp
  have key : (fun (k : Nat) (r : Array Value) => r.size = z.size ∧ ∀ i, i < cs.size → r[i]? = if i < k then cs[i]? else z[i]?) cs.zipIdx.size (Array.foldl (fun (a : Array Value) (x : Value × Nat) => a.setIfInBounds x.2 x.1) z cs.zipIdx) := by
    refine Array.foldl_induction (motive := fun (k : Nat) (r : Array Value) => r.size = z.size ∧ ∀ i, i < cs.size → r[i]? = if i < k then cs[i]? else z[i]?) ⟨rfl, fun i hi => by simp⟩ ?_
    intro k r ⟨hr, hall⟩
    have hk : k.1 < cs.size := by have := k.2; omega
    have e : cs.zipIdx[k] = (cs[k.1], k.1) := by simp
    rw [e]
    refine ⟨by simp [hr], fun i hi => ?_⟩
    by_cases hik : i = k.1
    · subst hik
      rw [Array.getElem?_setIfInBounds_self_of_lt (by omega), if_pos (by omega), Array.getElem?_eq_getElem hk]
    · rw [Array.getElem?_setIfInBounds_ne (fun e => hik e.symm), hall i hi]
      by_cases h2 : i < k.1
      · rw [if_pos h2, if_pos (by omega)]
      · rw [if_neg h2, if_neg (by omega)]
  obtain ⟨k1, k2⟩ := key
  rw [← hs]
  apply Array.ext_getElem?
  intro i
  by_cases hi : i < cs.size
  · rw [k2 i hi, if_pos (by omega)]
  · rw [Array.getElem?_eq_none (by omega), Array.getElem?_eq_none (by omega)]

theorem append_map {w : World} {ops : Array Oper} {rest : List Oper} {o : Oper} {a : Act} {Q : Exit → Act → World → Prop} (hgd : o.guard = none) (s x : Operand) (t : TypeId)
    (ho : o.op = .call { callee := .builtin .append, args := #[s, x], argTypes := #[t, t] }) (ht : Tryd.prog.underlying t = some (.slice 69))
    (base : Nat) (v : Value) (n : Nat) (X : Array Value) (hX : X = mapC (8 * 2 ^ n)) (hs : a.eval s = v) (hown : ZRow w base v n) (hx : a.eval x = .slice (some ⟨w.heap.size, 0, none⟩) 1 1)
    (hlen : n ≤ 64) (hbase : base ≤ w.heap.size)
    (h : ∀ v' w', ZRow w' base v' (n + 1) → Below base w w' → wpList Tryd.prog ops Q rest (a.put o.dst v') w') :
    wpList Tryd.prog ops Q (o :: rest) a (w.alloc (.cells X 69)) := by
  subst hX
  obtain ⟨i0, hi, hq⟩ := Option.map_eq_some_iff.1 info_map2
  simp only [Prod.mk.injEq] at hq
  obtain ⟨hz0, hz1, hz2⟩ := hq
  obtain ⟨z, hz, hzc⟩ := Option.map_eq_some_iff.1 hz0
  refine wpList_append_own _ hgd s x t ho base 69 i0 z 32 128 ht hi hz hz1 hz2 hzc (by decide) v n (zcells n) hs (World.ownsRow.alloc hown _) ⟨w.heap.size, 0, none⟩ 1 1 (mapC (8 * 2 ^ n)).toList hx (by rw [Array.length_toList, mapC_size]) ?_ ?_ (by unfold maxLen; omega) (by omega) (by simp; omega) ?_
  · intro j u hj
    have e1 : (⟨w.heap.size, 0, none⟩ : Addr).add j = ⟨w.heap.size, 0 + j, none⟩ := by unfold Addr.add; split <;> simp_all
    rw [e1, Nat.zero_add, cell_of_row _ w.heap.size j _ _ _ (heap_alloc_new w _)]
    simpa using hj
  · intro u hu
    have := mapC_one (8 * 2 ^ n)
    rw [Array.all_eq_true_iff_forall_mem] at this
    exact this u (by simpa using hu)
  · intro v' w' hown' hg _
    exact h v' w' hown' (((Below.refl base w).alloc hbase _).grown hg (by simp; omega) (fun k hk => (World.ownsRow.lt hown k hk).1))

set_option maxRecDepth 100000 in
set_option maxHeartbeats 2000000 in
theorem zeros_any (n : Nat) (w : World) (hn : n ≤ 140737488351232) (ht : Tab w) (hT : BTab w) :
    Calls Tryd.prog 29 #[.int .i64 n] w fun e w' => ∃ v, e = .returned v ∧ ZRow w' w.heap.size v (Lib.bitLen n) ∧ Below w.heap.size w w' := by
  have T := Lib.hid ht; clear ht
  have HT := Lib.hid hT; clear hT
  have BL := fun w' => Lib.hid (Tryd.bits_Len n w' (by omega) (by omega))
  rw [Int.toNat_natCast] at BL
  have hL := bitLen_le n
  obtain ⟨Z, hZ, hZs⟩ : ∃ Z : Array Value, Z = #[.int .u32 0, .int .u32 0, .int .u32 0, .int .u32 0, .int .u32 0, .int .u32 0, .int .u32 0, .int .u32 0, .int .u32 0, .int .u32 0, .int .u32 0, .int .u32 0, .int .u32 0, .int .u32 0, .int .u32 0, .int .u32 0, .int .u32 0, .int .u32 0, .int .u32 0, .int .u32 0, .int .u32 0, .int .u32 0, .int .u32 0, .int .u32 0, .int .u32 0, .int .u32 0, .int .u32 0, .int .u32 0, .int .u32 0, .int .u32 0, .int .u32 0, .int .u32 0] ∧ Z.size = 32 := ⟨_, rfl, rfl⟩
  have g1 : (w.alloc (.cells Z 69)).heap[w.heap.size]? = some (.cells Z 69) := heap_alloc_new _ _
  have hb0 : Below w.heap.size w (w.alloc (.cells Z 69)) := (Below.refl _ _).alloc (Nat.le_refl _) _
  have G1 := Lib.hid g1; clear g1
  have HZ := Lib.hid hZ; clear hZ
  have HZs := Lib.hid hZs; clear hZs
  have L0 := Lib.hid hb0; clear hb0
  generalize Lib.bitLen n = N at *
  go_enter Tryd.func29, Tryd.ntmps29
  go_wp2
  rw [← HZ.out]
  generalize w.alloc (.cells Z 69) = W2 at *
  go_loopw [6] (fun i wr => ∃ (j : Nat) (cs : Array Value), j ≤ 32 ∧ i = .int .i64 j ∧ cs.size = 32 ∧ wr.heap[w.heap.size]? = some (.cells cs 69 (0, 0)) ∧
      (∀ x, x < j → cs[x]? = some (.int .u32 (stpN 8 (2 ^ x) : Nat))) ∧ Below w.heap.size w wr) (fun i _ => 32 - (intOf i).toNat)
  case atStart => exact ⟨0, Z, by omega, rfl, HZs.out, G1.out, fun x hx => absurd hx (Nat.not_lt_zero _), L0.out⟩
  case round =>
    obtain ⟨j, cs, hj, rfl, hcs, hheap, hall, hbel⟩ := hrel
    have Hcs := Lib.hid hcs; clear hcs
    have Hheap := Lib.hid hheap; clear hheap
    have Hall := Lib.hid hall; clear hall
    by_cases hlt : j < 32
    · have h2 := two_pow_lt j hlt
      have C := Lib.hid (takeIn_any (2 ^ j) 0 wr h2 (by decide) (T.out.below hbel))
      rw [takeB_bit] at C
      have e1 : (2 : Int) ^ j % 4294967296 = ((2 ^ j : Nat) : Int) := by
        rw [show (2 : Int) ^ j = ((2 ^ j : Nat) : Int) by rw [Int.natCast_pow]; rfl]
        generalize 2 ^ j = D at h2 ⊢
        omega
      obtain ⟨old, hold⟩ : ∃ v, wr.cell? ⟨w.heap.size, j, none⟩ = some v := by
        rw [cell_of_row wr w.heap.size j cs _ _ Hheap.out]
        exact ⟨cs[j]'(by rw [Hcs.out]; exact hlt), by simp [Hcs.out, hlt]⟩
      have hfr := frozen_of_row wr w.heap.size j cs _ Hheap.out
      generalize hz : stpN 8 (2 ^ j) = z at *
      have Hz := Lib.hid hz; clear hz
      generalize hD : 2 ^ j = D at *
      have HD := Lib.hid hD; clear hD
      go_wp2_with fail
      refine C.out.mono ?_
      rintro e w3 ⟨rfl, rfl⟩
      go_wp2
      go_roundw
      case rel =>
        refine ⟨j + 1, cs.setIfInBounds j (.int .u32 z), by omega, by go_num, by simp [Hcs.out], heap_setCell_same wr w.heap.size j cs _ _ Hheap.out, ?_, hbel.setCell (p := ⟨w.heap.size, j, none⟩) (Nat.le_refl _) _⟩
        intro x hx
        by_cases hxj : x = j
        · subst hxj
          rw [HD.out, Hz.out, Array.getElem?_setIfInBounds_self_of_lt (by rw [Hcs.out]; exact hlt)]
        · rw [Array.getElem?_setIfInBounds_ne (fun e => hxj e.symm)]
          exact Hall.out x (by omega)
      case measure => simp [intOf]; omega
    · have hj32 : j = 32 := by omega
      have h32 : 32 ≤ j := by omega
      have Hm := Lib.hid (mapC_eq (k := 8) Hcs.out (fun x hx => Hall.out x (by omega)))
      have Hj := Lib.hid hj32; clear hj32
      have hh := Hheap.out
      rw [Hm.out] at hh
      have Hh := Lib.hid hh; clear hh Hall Hheap Hcs Hm
      go_wp2_with fail
      refine (BL wr).out.mono ?_
      rintro e w4 ⟨rfl, rfl⟩
      go_wp2
      go_loopw [3, 18] (fun v i wr => ∃ x : Nat, x ≤ N ∧ i = .int .i64 x ∧ ZRow wr (w.heap.size + 1) v x ∧ wr.heap[w.heap.size]? = some (.cells (mapC (8 * 2 ^ x)) 69 (0, 0)) ∧ Below w.heap.size w wr) (fun _ i _ => N - (intOf i).toNat)
      case atStart => exact ⟨0, by omega, rfl, World.ownsRow_nil _ _ _ _, Hh.out, hbel⟩
      case round =>
        clear hbel Hh hlt h32 hj Hj
        obtain ⟨x, hx, rfl, hown, hmap, hbel⟩ := hrel
        have Hown := Lib.hid hown; clear hown
        have Hmap := Lib.hid hmap; clear hmap
        have hM : w.heap.size + 1 ≤ wr.heap.size := (Array.getElem?_eq_some_iff.1 Hmap.out).1
        by_cases hlt : x < N
        · have hdbl : 8 * 2 ^ x + 8 * 2 ^ x = 8 * 2 ^ (x + 1) := by rw [Nat.pow_succ]; omega
          have Hdbl := Lib.hid hdbl; clear hdbl
          have hms := mapC_size (8 * 2 ^ x)
          go_wp2_with (first
            | ((with_reducible refine wpList_load_row rfl 69 (.tmp 4) rfl w.heap.size rfl _ (mapC (8 * 2 ^ x)) _ _ Hmap.out Tryd.underlying69 rfl (by rw [mapC_size]; exact info_map) ?_))
            | (at_builtin; refine append_map rfl (.tmp 20) (.tmp 22) 50 rfl Tryd.underlying50 (w.heap.size + 1) u3 x _ (fold_zip _ _ (by rw [mapC_size]; rfl) _ (by first | rfl | rw [mapC_size])) rfl Hown.out rfl (by omega) hM ?_; intro v' w3 hown3 hb3)
            )
          have Hown3 := Lib.hid hown3; clear hown3
          have hm3 := (hb3.block w.heap.size (by omega)).trans Hmap.out
          have hw3 : Below w.heap.size w w3 := hbel.trans (hb3.mono (by omega))
          have C := Lib.hid (twice_any w.heap.size 0 (8 * 2 ^ x) w3 (Array.getElem?_eq_some_iff.1 hm3).1 (mapC_at hm3) (HT.out.below hw3))
          rw [Hdbl.out] at C
          have Hm3 := Lib.hid hm3; clear hm3
          refine C.out.mono ?_
          rintro e w5 ⟨rfl, hb5⟩
          have hlt3 : w.heap.size < w3.heap.size := (Array.getElem?_eq_some_iff.1 Hm3.out).1
          have hm5 := (hb5.block w.heap.size hlt3).trans Hm3.out
          have Hm5 := Lib.hid hm5; clear hm5
          go_wp2_with ((with_reducible refine wpList_store_row rfl 69 (.tmp 4) (.tmp 24) rfl w.heap.size (mapC (8 * 2 ^ (x + 1))) rfl rfl _ (mapC (8 * 2 ^ x)) Hm5.out (by rw [mapC_size]; exact info_map) (by rw [mapC_size, mapC_size]) (mapC_one _) ?_))
          go_wp2
          go_roundw
          case rel =>
            refine ⟨x + 1, by omega, by go_num, ?_, setRow_heap _ _ _ _ _ _ Hm5.out, Below_setRow (hw3.trans (hb5.mono hw3.size)) (Nat.le_refl _) _⟩
            refine Hown3.out.kept (fun g hg hlt => ?_)
            rw [setRow_other _ _ _ _ (by omega)]
            exact hb5.block g hlt
          case measure => simp [intOf]; omega
        · have hxN : x = N := by omega
          subst hxN
          go_wp2
          go_ret
          exact ⟨_, rfl, Hown.out.mono (by omega), hbel⟩
end Go.Proofs.YtjgoceebjmnjcaaDoor
