/- Several texts in one: AppendKeep, RefSumW, SumsW, SumsAW, SumsNW, FourW, OneFW. -/
import Derived.Deep.AppendLies
import Derived.WalkKit
import Derived.Test.YtamiacmnobklaaaGreatDoorBitLaw
import Derived.Test.YtamiacmnobklaaaGreatDoorCrX
import Derived.Test.YtamiacmnobklaaaGreatDoorFrame
import Derived.Test.YtamiacmnobklaaaGreatDoorGen
import Derived.Test.YtamiacmnobklaaaGreatDoorInfos
import Derived.Test.YtamiacmnobklaaaGreatDoorOwnL
import Derived.Test.YtamiacmnobklaaaGreatDoorRows
import Derived.Lib.Hide
import Derived.Outline
import Derived.WalkLawsBesides
import Derived.WalkSpells
import Derived.Test.YtamiacmnobklaaaGreatDoorFrmShelf
import Derived.BigQuiet
import Derived.BigRegion
import Derived.Deep.CutBlock
import Derived.Deep.DeepCutAuto
import Derived.Deep.QuietTactic
import Derived.Deep.RegionHeld3
import Derived.Deep.RegionLaw
import Derived.IntWalk
import Derived.Laws.BitsAllLaws
import Derived.Laws.Rows
import Derived.Laws.Tables
import Derived.Lib.TrailingZeros
import Derived.Deep.Onto
/- append to a list of the call's own, said with what the old block still holds: where a region that draws its order has read it ahead. Of no program. -/
set_option linter.unusedVariables false
namespace Go.Proofs.YtamiacmnobklaaaGreatDoor
open Go.RowKit

theorem addr_add (g j : Nat) : (⟨g, 0, none⟩ : Addr).add j = ⟨g, j, none⟩ := by unfold Addr.add; split <;> simp_all

theorem run_append_keep {P : Program} (w : World) (t ty : TypeId) (base : Nat) (e : TypeId) (i : TypeInfo) (z : Value) (bytes : Nat) (ht : P.underlying t = some (.slice e)) (hi : P.info? e = some i) (hz : i.zero = some z)
    (hsize : i.size = 1) (hby : i.bytes = bytes) (hzs : z.cells.size = 1)
    (kb n cap : Nat) (xs : List Value) (hown : w.ownsRow base e 1 (.slice (some ⟨kb, 0, none⟩) n cap) n xs)
    (ad : Addr) (m c : Nat) (news : List Value) (hl : news.length = m * 1) (hnews : ∀ j u, news[j]? = some u → w.cell? (ad.add j) = some u) (h1 : ∀ u ∈ news, u.oneCell' = true)
    (hm : 0 < m) (h63 : n + m ≤ maxLen) (hbytes : (n + m) * bytes ≤ 140737488355328) (hbase : base ≤ w.heap.size) (H : Nat) (hH : w.heap.size = H) :
    ∃ g cap' w', (Builtin.append_ #[t, t] ty #[.slice (some ⟨kb, 0, none⟩) n cap, .slice (some ad) m c]).run P w = .ok (.slice (some ⟨g, 0, none⟩) (n + m) cap') w' ∧
      w'.ownsRow base e 1 (.slice (some ⟨g, 0, none⟩) (n + m) cap') (n + m) (xs ++ news) ∧ w.grownBy w' (some kb) ∧ (g = kb ∨ g = H) ∧ g < w'.heap.size ∧
      ∀ j u, xs[j]? = some u → w'.cell? ⟨kb, j, none⟩ = some u := by
  obtain ⟨g, cap', w', hr, h2, h3, h4, h5⟩ := run_append_lies (P := P) w t ty base e i z 1 bytes ht hi hz hsize hby hzs (by decide) _ n xs hown ad m c news hl hnews h1 hm h63 hbytes hbase H hH
  refine ⟨g, cap', w', hr, h2, h3, ?_, h5, ?_⟩
  · rcases h4 with h4 | h4
    · left; simpa [Value.ownBlock] using h4.symm
    · exact .inr h4
  · intro j u hj
    have holds : ∀ j u, xs[j]? = some u → w.cell? ((⟨kb, 0, none⟩ : Addr).add j) = some u := hown.cells (g := kb) rfl
    rcases hown.2 with ⟨hv, _⟩ | ⟨g2, cap2, cur, hv, hbg, hg, hnc, hcm, hcs, htake⟩
    · cases hv
    · simp at hv
      obtain ⟨rfl, rfl⟩ := hv
      by_cases hroom : n + m ≤ cap
      · have hr2 := run_append_room (P := P) w t ty e i ht hi kb n cap cur hg ad m c news (by rw [hsize]; exact hl) hnews h1 hroom (by rw [hsize, hl, hcs]; omega)
        rw [hr] at hr2
        injection hr2 with _ hw
        rw [hw, cell_of_row _ kb j _ _ _ (setRow_heap w kb cur _ e _ hg)]
        have hjl : j < xs.length := (List.getElem?_eq_some_iff.1 hj).1
        rw [hsize, htake]
        simp only [List.getElem?_toArray, List.append_assoc]
        rw [List.getElem?_append_left hjl]
        exact hj
      · have hr2 := run_append_grow (P := P) w t ty e i z ht hi hz ⟨kb, 0, none⟩ n cap xs (by rw [hsize]; exact hown.1) holds ad m c news (by rw [hsize]; exact hl) hnews (by omega) (by unfold maxLen at h63; omega) (growslice_fits (by omega) (by rw [hby]; exact hbytes))
        rw [hr] at hr2
        injection hr2 with _ hw
        have hc := holds j u hj
        rw [addr_add] at hc
        rw [hw, World.cell?_alloc_lt _ _ _ (by show kb < w.heap.size; exact (Array.getElem?_eq_some_iff.1 hg).1)]
        exact hc

theorem step_append_keep {P : Program} (w : World) {ops : Array Oper} {o : Oper} {a : Act} {K : Act → World → Prop} {Q : Exit → Act → World → Prop} {E : Prop} (hgd : o.guard = none) (s x : Operand) (t : TypeId)
    (ho : o.op = .call { callee := .builtin .append, args := #[s, x], argTypes := #[t, t] })
    (base : Nat) (e : TypeId) (i : TypeInfo) (z : Value) (bytes : Nat) (ht : P.underlying t = some (.slice e)) (hi : P.info? e = some i) (hz : i.zero = some z)
    (hsize : i.size = 1) (hby : i.bytes = bytes) (hzs : z.cells.size = 1)
    (kb n cap : Nat) (xs : List Value) (hs : a.eval s = .slice (some ⟨kb, 0, none⟩) n cap) (hown : w.ownsRow base e 1 (.slice (some ⟨kb, 0, none⟩) n cap) n xs)
    (ad : Addr) (m c : Nat) (news : List Value) (hx : a.eval x = .slice (some ad) m c) (hl : news.length = m * 1) (hnews : ∀ j u, news[j]? = some u → w.cell? (ad.add j) = some u) (h1 : ∀ u ∈ news, u.oneCell' = true)
    (hm : 0 < m) (h63 : n + m ≤ maxLen) (hbytes : (n + m) * bytes ≤ 140737488355328) (hbase : base ≤ w.heap.size) (H : Nat) (hH : w.heap.size = H)
    (h : ∀ g cap' w', w'.ownsRow base e 1 (.slice (some ⟨g, 0, none⟩) (n + m) cap') (n + m) (xs ++ news) → w.grownBy w' (some kb) → (g = kb ∨ g = H) → g < w'.heap.size → (∀ j u, xs[j]? = some u → w'.cell? ⟨kb, j, none⟩ = some u) →
      K (a.put o.dst (.slice (some ⟨g, 0, none⟩) (n + m) cap')) w') :
    if Region.wanted o (yielded ops a.tmps) = true then Oper.wp P o a w K Q else E := by
  have hw : Region.wanted o (yielded ops a.tmps) = true := by simp [Region.wanted, hgd]
  rw [if_pos hw]
  obtain ⟨g, cap', w', hr, h2, h3, h4, h5, h6⟩ := run_append_keep (P := P) w t o.type base e i z bytes ht hi hz hsize hby hzs kb n cap xs hown ad m c news hl hnews h1 hm h63 hbytes hbase H hH
  unfold Oper.wp execOp
  simp only [ho, resolve, invoke, builtin, Sem.run_bind, Sem.run_pure, Result.andThen_ok, List.map_toArray, List.map_cons, List.map_nil, hs, hx, hr]
  exact h g cap' w' h2 h3 h4 h5 h6
end Go.Proofs.YtamiacmnobklaaaGreatDoor
/- Walks of the document's own sums. -/
set_option linter.unusedVariables false
namespace Go.Proofs.YtamiacmnobklaaaGreatDoor
open Go.RowKit


theorem bitsL_take (l : List UInt8) (k : Nat) (h : k < l.length) : bitsL (l.take (k + 1)) = bitsL (l.take k) ++ bitsB l[k].toNat 8 := by
  rw [List.take_succ_eq_append_getElem h]
  unfold bitsL
  rw [List.flatMap_append, List.flatMap_cons, List.flatMap_nil, List.append_nil]
theorem bitsB_snoc (c n : Nat) : bitsB c (n + 1) = bitsB c n ++ [c / 2 ^ n % 2] := by
  induction n generalizing c with
  | zero => simp [bitsB]
  | succ n ih => rw [bitsB, ih, bitsB, Nat.div_div_eq_div_mul, Nat.pow_succ, Nat.mul_comm 2]; rfl

set_option maxRecDepth 100000 in
set_option maxHeartbeats 800000 in
theorem bits_any (l : List UInt8) (w : World) (hl : l.length ≤ 1000000) :
    Calls Tryz.prog 148 #[.string ⟨l.toArray⟩] w fun e w' => ∃ v, e = .returned v ∧ OwnL encN w' w.heap.size 3 v (bitsL l) ∧ Below w.heap.size w w' := by
  have L := Lib.hid (show (⟨l.toArray⟩ : ByteArray).size = l.length from rfl)
  go_enter Tryz.func148, Tryz.ntmps148
  go_wp2
  go_loopw [3, 4, 5, 6] (fun v i _ _ wr => ∃ k : Nat, k ≤ l.length ∧ i = .int .i64 k ∧ OwnL encN wr w.heap.size 3 v (bitsL (l.take k)) ∧ Below w.heap.size w wr) (fun _ i _ _ _ => l.length - (intOf i).toNat)
  case atStart => exact ⟨0, Nat.zero_le _, rfl, OwnL.nil _ _ _ _, Below.refl _ _⟩
  case round =>
    obtain ⟨k, hk, rfl, hown, hbel⟩ := hrel
    have Hown := Lib.hid hown; clear hown
    by_cases hlt : k < l.length
    · obtain ⟨wo, rfl⟩ : ∃ wo : World, wo = wr := ⟨_, rfl⟩
      have B : ((⟨l.toArray⟩ : ByteArray)[k]'hlt).toNat < 256 := UInt8.toNat_lt _
      have E := Lib.hid (bitsL_take l k hlt)
      have hE : l[k].toNat = ((⟨l.toArray⟩ : ByteArray)[k]'hlt).toNat := rfl
      rw [hE] at E
      clear hE
      have LB : (bitsL (l.take k)).length ≤ 8000000 := by rw [bitsL_length, List.length_take]; omega
      go_wp2
      generalize ((⟨l.toArray⟩ : ByteArray)[k]'hlt).toNat = c at *
      go_loopw [3, 5, 6] (fun v x i wr => ∃ j : Nat, j ≤ 8 ∧ i = .int .i64 j ∧ x = .int .i64 (c / 2 ^ j : Nat) ∧ OwnL encN wr w.heap.size 3 v (bitsL (l.take k) ++ bitsB c j) ∧ Below w.heap.size w wr) (fun _ _ i _ => 8 - (intOf i).toNat)
      case atStart => exact ⟨0, by omega, rfl, by simp, by simpa [bitsB] using Hown.out, hbel⟩
      case round =>
        obtain ⟨j, hj, rfl, rfl, hown, hbel1⟩ := hrel
        have Hown1 := Lib.hid hown; clear hown Hown
        have hbw := hbel1.size
        have hlen : (bitsL (l.take k) ++ bitsB c j).length ≤ 8000008 := by rw [List.length_append, bitsB_length]; omega
        by_cases hj8 : j < 8
        · have hq : c / 2 ^ j < 256 := Nat.lt_of_le_of_lt (Nat.div_le_self _ _) B
          have Hs := Lib.hid (bitsB_snoc c j)
          have Hd := Lib.hid (show c / 2 ^ (j + 1) = c / 2 ^ j / 2 by rw [Nat.div_div_eq_div_mul, Nat.pow_succ])
          generalize c / 2 ^ j = q at *
          go_wp2_with (at_builtin; refine append_elem (enc := encN) (y := q % 2) rfl _ _ 156 3 (.int .i64 0) 8 (by rfl) Tryz.underlying156 info_i64 rfl w.heap.size _ _ rfl (by rfl) Hown1.out (by rfl) (by omega) (by unfold maxLen; omega) (by omega) ?_; intro v' w3 hown3 hb3 hk3)
          have Hown3 := Lib.hid hown3; clear hown3
          go_wp2
          go_roundw
          case rel => exact ⟨j + 1, by omega, by go_num, by rw [Hd.out]; go_num, by rw [Hs.out, ← List.append_assoc]; exact Hown3.out, hbel1.trans hb3⟩
          case measure => simp [intOf]; omega
        · have h8 : 8 - j = 0 := by omega
          go_wp2
          go_roundw
          case rel =>
            refine ⟨k + 1, by omega, by go_num, ?_, hbel1⟩
            rw [E.out]
            have : j = 8 := by omega
            subst this
            exact Hown1.out
          case measure => simp [intOf]; omega
    · have S := Lib.hid (show l.take k = l from List.take_of_length_le (by omega))
      go_wp2
      go_ret
      refine ⟨_, rfl, ?_, hbel⟩
      have := Hown.out
      rw [S.out] at this
      exact this

theorem bitsB_lt (c n : Nat) : ∀ b ∈ bitsB c n, b < 2 := by
  induction n generalizing c with
  | zero => simp [bitsB]
  | succ n ih =>
    intro b hb
    simp only [bitsB, List.mem_cons] at hb
    rcases hb with rfl | hb
    · omega
    · exact ih _ b hb
theorem bitsL_lt (l : List UInt8) : ∀ b ∈ bitsL l, b < 2 := by
  intro b hb
  simp only [bitsL, List.mem_flatMap] at hb
  obtain ⟨c, _, hb⟩ := hb
  exact bitsB_lt _ _ b hb
def foldB (r : Nat) (l : List Nat) : Nat := l.foldl bitStep r
theorem foldB_take (r : Nat) (l : List Nat) (k : Nat) (h : k < l.length) : foldB r (l.take (k + 1)) = bitStep (foldB r (l.take k)) l[k] := by
  unfold foldB
  rw [List.take_succ_eq_append_getElem h, List.foldl_append]
  rfl
theorem foldB_lt (r : Nat) (l : List Nat) (h : r < 4294967296) : foldB r l < 4294967296 := by
  induction l generalizing r with
  | nil => exact h
  | cons b l ih => exact ih _ (bitStep_lt r b h)

set_option maxRecDepth 100000 in
set_option maxHeartbeats 800000 in
theorem refAdd_any (sum : Int) (s : Nat) (l : List UInt8) (w : World) (hs : sum % 4294967296 = (s : Int)) (hs2 : s < 4294967296) (hl : l.length ≤ 1000000) :
    Calls Tryz.prog 120 #[.int .i64 sum, .string ⟨l.toArray⟩] w fun e w' => e = .returned (.int .i64 (addS s l : Nat)) ∧ Below w.heap.size w w' := by
  have t0 := turn_lt s hs2
  have e1 := i64_and32 sum
  rw [hs] at e1
  have e2 : (4294967295 : Int) - (s : Int) = (turn s : Nat) := by have := turn_sub s hs2; omega
  have Ha := Lib.hid (show turn (foldB (turn s) (bitsL l)) = addS s l by unfold foldB; rw [bits_crc]; rfl)
  have hbl := bitsL_length l
  have Hlt := Lib.hid (bitsL_lt l)
  generalize turn s = r0 at t0 e2 Ha
  have C := fun w' => Lib.hid (bits_any l w' hl)
  clear hs
  go_enter Tryz.func120, Tryz.ntmps120
  go_wp2_with fail
  refine (C _).out.mono ?_
  rintro e w1 ⟨v, rfl, hown, hb1⟩
  have Hrow := Lib.hid hown.row.cases; clear hown
  generalize bitsL l = bs at *
  rcases Hrow.out with ⟨hnil, a, cap, rfl⟩ | ⟨b, off, cap, rfl, hbb, hc⟩
  · have Hnil := Lib.hid hnil; clear hnil Hrow
    rw [Hnil.out] at Ha
    have e4 : (4294967295 : Int) - (r0 : Nat) = (turn (foldB r0 []) : Nat) := by have := turn_sub r0 t0; show _ = ((turn r0 : Nat) : Int); omega
    rw [Ha.out] at e4
    go_wp2
    refine wp_loop_rounds 1 ?_
    rw [rounds_succ]
    go_wp2
    go_ret
    exact ⟨rfl, hb1⟩
  · clear Hrow
    have HC := Lib.hid hc; clear hc
    go_wp2
    go_loop [5, 7] (fun r i => ∃ k : Nat, k ≤ bs.length ∧ i = .int .i64 k ∧ r = .int .i64 (foldB r0 (bs.take k) : Nat)) (fun _ i => bs.length - (intOf i).toNat)
    case atStart => exact ⟨0, Nat.zero_le _, rfl, rfl⟩
    case round =>
      obtain ⟨k, hk, rfl, rfl⟩ := hrel
      have hb := foldB_lt r0 (bs.take k) t0
      by_cases hlt : k < bs.length
      · have hcell := HC.out k hlt
        have hbit : bs[k] < 2 := Hlt.out _ (List.getElem_mem hlt)
        have S := Lib.hid (foldB_take r0 bs k hlt)
        generalize foldB r0 (bs.take k) = r at *
        generalize bs[k] = c at *
        have e3 := i64_xor_nat (r / 2) 3988292384 (by omega) (by decide)
        rw [show ((r / 2 : Nat) : Int) = (r : Int) / 2 from by omega, show ((3988292384 : Nat) : Int) = 3988292384 from rfl] at e3
        by_cases hone : r % 2 + c = 1
        · have hone1 : ((r : Int) % 2 + (c : Int) == 1) = true := by simp; omega
          have Hs : Hid (bitStep r c = (r / 2) ^^^ 3988292384) := Lib.hid (by unfold bitStep; rw [if_pos hone]; rfl)
          clear hone
          go_wp2
          go_round
          case rel => exact ⟨k + 1, by omega, by go_num, by rw [S.out, Hs.out]⟩
          case measure => simp [intOf]; omega
        · have hone1 : ((r : Int) % 2 + (c : Int) == 1) = false := by simp; omega
          have Hs : Hid (bitStep r c = r / 2) := Lib.hid (by unfold bitStep; rw [if_neg hone])
          clear hone
          go_wp2
          go_round
          case rel => exact ⟨k + 1, by omega, by go_num, by rw [S.out, Hs.out]; go_num⟩
          case measure => simp [intOf]; omega
      · have S := Lib.hid (show bs.take k = bs from List.take_of_length_le (by omega))
        rw [S.out] at hb ⊢
        have e4 : (4294967295 : Int) - (foldB r0 bs : Nat) = (turn (foldB r0 bs) : Nat) := by have := turn_sub _ hb; omega
        rw [Ha.out] at e4
        generalize foldB r0 bs = r at *
        go_wp2
        go_ret
        exact ⟨rfl, hb1⟩

theorem refSum_any (l : List UInt8) (w : World) (hl : l.length ≤ 1000000) :
    Calls Tryz.prog 85 #[.string ⟨l.toArray⟩] w fun e w' => e = .returned (.int .i64 (sumS l : Nat)) ∧ Below w.heap.size w w' := by
  have C := fun w' => Lib.hid (refAdd_any 0 0 l w' rfl (by decide) hl)
  go_enter Tryz.func85, Tryz.ntmps85
  go_wp2_with fail
  refine (C _).out.mono ?_
  rintro e w' ⟨rfl, hb⟩
  go_wp2
  go_ret
  exact ⟨rfl, hb⟩
end Go.Proofs.YtamiacmnobklaaaGreatDoor
/- Walks of the kept sums: first. -/
set_option linter.unusedVariables false
namespace Go.Proofs.YtamiacmnobklaaaGreatDoor
open Go.RowKit

/-- The kept sums are those of the first 0, 64, 128, .. bytes. -/
def Good (l : List UInt8) (K : List Nat) : Prop := 0 < K.length ∧ 64 * (K.length - 1) ≤ l.length ∧ ∀ i (h : i < K.length), K[i] = sumS (l.take (64 * i))
theorem sumS_nil : sumS [] = 0 := by unfold sumS addS; rw [crcN_nil, turn_turn]
theorem Good.start (l : List UInt8) : Good l [0] := ⟨by simp, by simp, fun i h => by
  have : i = 0 := by simpa using h
  subst this
  rw [Nat.mul_zero, List.take_zero, sumS_nil]
  rfl⟩
theorem sum_piece (l : List UInt8) (a b : Nat) (h : a ≤ b) : addS (sumS (l.take a)) ((l.take b).drop a) = sumS (l.take b) := by
  rw [← sumS_append]
  congr 1
  have : l.take a = (l.take b).take a := by rw [List.take_take, Nat.min_eq_left h]
  rw [this, List.take_append_drop]
theorem Good.next {l : List UInt8} {K : List Nat} (h : Good l K) (q : Nat) (hq : K.length = q + 1) (hl : 64 * (q + 1) ≤ l.length) : Good l (K ++ [sumS (l.take (64 * (q + 1)))]) := by
  refine ⟨by simp, by rw [List.length_append, hq]; simpa using hl, fun i hi => ?_⟩
  by_cases hk : i < K.length
  · rw [List.getElem_append_left hk]; exact h.2.2 i hk
  · have : i = q + 1 := by simp at hi; omega
    subst this
    rw [List.getElem_append_right (by omega)]
    simp [hq]

/-- The object of the kept sums in block S, its list in block kb. -/
structure SumsAt (w : World) (base S : Nat) (l : List UInt8) (kb cap : Nat) (zv : Value) (K : List Nat) : Prop where
  heap : w.heap[S]? = some (.cells #[.string ⟨l.toArray⟩, .slice (some ⟨kb, 0, none⟩) K.length cap, zv] 161 (0, 0))
  own : OwnL encN w base 3 (.slice (some ⟨kb, 0, none⟩) K.length cap) K
  z : ZRow w base zv 17
  good : Good l K
  at' : base ≤ S
theorem SumsAt.kb_at {w : World} {base S : Nat} {l : List UInt8} {kb cap : Nat} {zv : Value} {K : List Nat} (h : SumsAt w base S l kb cap zv K) : base ≤ kb ∧ kb < w.heap.size ∧ kb ≠ S := by
  rcases h.own.2 with ⟨hv, _⟩ | ⟨g, c, cur, hv, hb, hgg, _⟩
  · cases hv
  · simp at hv
    obtain ⟨rfl, _⟩ := hv
    refine ⟨hb, (Array.getElem?_eq_some_iff.1 hgg).1, ?_⟩
    rintro rfl
    rw [h.heap] at hgg
    simp at hgg
theorem SumsAt.get {w : World} {base S : Nat} {l : List UInt8} {kb cap : Nat} {zv : Value} {K : List Nat} (h : SumsAt w base S l kb cap zv K) (i : Nat) (hi : i < K.length) :
    w.cell? ⟨kb, i, none⟩ = some (.int .i64 (sumS (l.take (64 * i)) : Nat)) := by
  obtain ⟨a, c, hv, hc⟩ := h.own.row
  obtain ⟨b, off, ha, _, hcell⟩ := hc i hi
  simp at hv
  obtain ⟨rfl, _⟩ := hv
  simp at ha
  obtain ⟨rfl, rfl⟩ := ha
  rw [Nat.zero_add] at hcell
  rw [hcell, h.good.2.2 i hi]
theorem SumsAt.drewN {w : World} {base S : Nat} {l : List UInt8} {kb cap : Nat} {zv : Value} {K : List Nat} (h : SumsAt w base S l kb cap zv K) (n : Nat) : SumsAt (w.drewN n) base S l kb cap zv K :=
  ⟨h.heap, h.own, h.z, h.good, h.at'⟩
/-- What a call may turn that goes on with the kept sums. -/
abbrev SK (S kb : Nat) : Nat → Prop := fun k => k = S ∨ k = kb
theorem Tab.kept {w w' : World} {M : Nat → Prop} {base : Nat} (h : Tab w) (hk : Kept M w w') (hM : ∀ k, M k → base ≤ k) (hb : 0 < base) : Tab w' := by
  have hn : ¬ M 0 := fun m => by have := hM _ m; omega
  refine ⟨Nat.lt_of_lt_of_le h.1 hk.size, fun i hi => ?_⟩
  rw [World.cell?_of_block (w := w) (hk.block _ h.1 hn)]
  exact h.2 i hi
theorem tab_drew {w : World} (h : Hid (Tab w)) : Hid (Tab w.drew) := Lib.hid h.out
theorem tab_alloc {w : World} (h : Hid (Tab w)) (o : Obj) : Hid (Tab (w.alloc o)) := Lib.hid (h.out.below ((Below.refl _ _).alloc (Nat.le_refl _) _))
theorem tab_grown {w w' : World} {r : Option Nat} (h : Hid (Tab w)) (hg : w.grownBy w' r) (hr : r ≠ some 0) : Hid (Tab w') := by
  have h1 := h.out
  refine Lib.hid ⟨Nat.lt_of_lt_of_le h1.1 hg.size, fun i hi => ?_⟩
  rw [World.cell?_of_block (w := w) (hg.block _ h1.1 (fun e => hr e.symm))]
  exact h1.2 i hi
theorem cell_alloc {w : World} {a : Addr} {v : Value} (h : w.cell? a = some v) (o : Obj) : (w.alloc o).cell? a = some v := by
  rw [World.cell?_alloc_lt _ _ _ (World.block_lt_of_cell? w a h)]; exact h
theorem cell_drew {w : World} {a : Addr} {v : Value} (h : w.cell? a = some v) : w.drew.cell? a = some v := h
theorem cell_grown {w w' : World} {a : Addr} {v : Value} {r : Option Nat} (h : w.cell? a = some v) (hg : w.grownBy w' r) (hr : r ≠ some a.block) : w'.cell? a = some v := by
  rw [World.cell?_of_block (w := w) (hg.block _ (World.block_lt_of_cell? w a h) (fun e => hr e.symm))]; exact h
theorem row_kept_at {w : World} {kb q : Nat} {xs : List Value} {u : Value} (h : Hid (xs[q]? = some u)) (hk : ∀ j u, xs[j]? = some u → w.cell? ⟨kb, j, none⟩ = some u) : w.cell? ⟨kb, q, none⟩ = some u := hk q u h.out
theorem frozen_alloc {w : World} {a : Addr} {v : Value} (hc : w.cell? a = some v) (h : w.frozen? a = false) (o : Obj) : (w.alloc o).frozen? a = false := by
  rw [World.frozen?_of_block (w := w) (Below.heap_alloc w o a.block (World.block_lt_of_cell? w a hc))]; exact h
theorem frozen_drew {w : World} {a : Addr} (h : w.frozen? a = false) : w.drew.frozen? a = false := h
theorem frozen_grown {w w' : World} {a : Addr} {v : Value} {r : Option Nat} (hc : w.cell? a = some v) (h : w.frozen? a = false) (hg : w.grownBy w' r) (hr : r ≠ some a.block) : w'.frozen? a = false := by
  rw [World.frozen?_of_block (w := w) (hg.block _ (World.block_lt_of_cell? w a hc) (fun e => hr e.symm))]; exact h
theorem sums_info : (Tryz.prog.info? 161).map (·.size) = some 3 := by kernel_rfl

theorem kept_new {M : Nat → Prop} {w a b : World} (h : Kept M w a) (k : Kept (fun k => M k ∨ w.heap.size ≤ k) a b) : Kept M w b :=
  ⟨k.os.trans h.os, k.tape.trans h.tape, k.output.trans h.output, Nat.le_trans h.size k.size, fun i hi hm => (k.block i (Nat.lt_of_lt_of_le hi h.size) (fun e => e.elim hm (fun e => by omega))).trans (h.block i hi hm)⟩
theorem kept_grown {w w' : World} {r : Nat} (hg : w.grownBy w' (some r)) : Kept (· = r) w w' := ⟨hg.os, hg.tape, hg.output, hg.size, fun k hk hm => hg.block k hk (fun e => hm (by simpa using e))⟩
theorem sums_next {wr w2 : World} {base S kb' cap' gg cap2 q z : Nat} {l : List UInt8} {zv : Value} {K' : List Nat} (hs : SumsAt wr base S l kb' cap' zv K') (hq : K'.length = q + 1) (hg : Good l (K' ++ [z]))
    (hown2 : w2.ownsRow base 3 1 (.slice (some ⟨gg, 0, none⟩) (q + 1 + 1) cap2) (q + 1 + 1) (K'.map encN ++ [.int .i64 z]))
    (hgrow : (wr.alloc (.cells #[.int .i64 z] 3)).drew.grownBy w2 (some kb')) (hat : gg = kb' ∨ gg = wr.heap.size + 1) :
    SumsAt (w2.setCell ⟨S, 1, none⟩ (.slice (some ⟨gg, 0, none⟩) (q + 1 + 1) cap2)) base S l gg cap2 zv (K' ++ [z]) ∧
      Kept (SK S kb') wr (w2.setCell ⟨S, 1, none⟩ (.slice (some ⟨gg, 0, none⟩) (q + 1 + 1) cap2)) := by
  obtain ⟨hk1, hk2, hk3⟩ := hs.kb_at
  have hSlt : S < wr.heap.size := (Array.getElem?_eq_some_iff.1 hs.heap).1
  have kW : Kept (SK S kb') wr w2 := ((Kept.refl (SK S kb') wr).alloc _).drew.trans ((kept_grown hgrow).mono (fun k _ e => .inr e))
  have hw2S : w2.heap[S]? = some (.cells #[.string ⟨l.toArray⟩, .slice (some ⟨kb', 0, none⟩) K'.length cap', zv] 161 (0, 0)) := by
    rw [hgrow.block S (by show S < (wr.alloc _).heap.size; simp; omega) (by simp; omega)]
    exact (Below.heap_alloc wr _ S hSlt).trans hs.heap
  have hgS : gg ≠ S := by
    rcases hat with rfl | rfl
    · exact hk3
    · omega
  have hlen : (K' ++ [z]).length = q + 1 + 1 := by rw [List.length_append, hq]; rfl
  refine ⟨⟨?_, ?_, ?_, hg, hs.at'⟩, kW.setCell (.inl rfl) _⟩
  · rw [heap_setCell_same w2 S 1 _ _ _ hw2S, hlen]
    rfl
  · unfold OwnL
    rw [hlen, List.map_append]
    refine World.ownsRow.kept (row := some S) hown2 ⟨rfl, rfl, rfl, by simp [World.setCell], fun k hk hne => heap_setCell_other _ _ _ _ (fun e => hne (by simp [e]))⟩ (.inr ?_)
    simp only [Value.ownBlock, ne_eq, Option.some.injEq]
    exact hgS
  · refine ⟨hs.z.1, ?_⟩
    rcases hs.z.2 with hn | ⟨g, cap, cur, rfl, hb, hgg, rest⟩
    · exact .inl hn
    · refine .inr ⟨g, cap, cur, rfl, hb, ?_, rest⟩
      have hgk : g ≠ kb' := by
        rintro rfl
        rcases hs.own.2 with ⟨hv, _⟩ | ⟨g3, c3, cur3, hv, _, hgg3, _⟩
        · cases hv
        · simp at hv
          obtain ⟨rfl, _⟩ := hv
          rw [hgg] at hgg3
          simp at hgg3
      have hgs : g ≠ S := by
        rintro rfl
        rw [hs.heap] at hgg
        simp at hgg
      rw [heap_setCell_other _ _ _ _ hgs, kW.block g (Array.getElem?_eq_some_iff.1 hgg).1 (fun e => e.elim hgs hgk)]
      exact hgg
theorem sums_rel {w wr w' : World} {base S kb kb' cap2 gg q z : Nat} {l : List UInt8} {zv : Value} {K' : List Nat} (hq : K'.length = q + 1) (h : SumsAt w' base S l gg cap2 zv (K' ++ [z]) ∧ Kept (SK S kb') wr w')
    (hat : gg = kb' ∨ gg = wr.heap.size + 1) (hkb : kb' = kb ∨ w.heap.size ≤ kb') (hk : Kept (SK S kb) w wr) :
    (K' ++ [z]).length = q + 1 + 1 ∧ SumsAt w' base S l gg cap2 zv (K' ++ [z]) ∧ (gg = kb ∨ w.heap.size ≤ gg) ∧ Kept (SK S kb) w w' := by
  refine ⟨by rw [List.length_append, hq]; rfl, h.1, ?_, kept_new hk (h.2.mono fun k _ e => ?_)⟩
  · rcases hat with rfl | rfl
    · exact hkb
    · right; have := hk.size; omega
  · rcases e with rfl | rfl
    · exact .inl (.inl rfl)
    · rcases hkb with rfl | hkb
      · exact .inl (.inr rfl)
      · exact .inr hkb

/-- What first does: its contract. -/
def FirstSpec : Prop := ∀ (base S n kb cap : Nat) (l : List UInt8) (zv : Value) (K : List Nat) (w : World), l.length ≤ 1000000 → n ≤ l.length → SumsAt w base S l kb cap zv K → 0 < base → base ≤ w.heap.size → Tab w →
    Calls Tryz.prog 116 #[.pointer (some ⟨S, 0, none⟩), .int .i64 n] w fun e w' => ∃ kb' cap' K', e = .returned (.int .i64 (sumS (l.take n) : Nat)) ∧
      SumsAt w' base S l kb' cap' zv K' ∧ (kb' = kb ∨ w.heap.size ≤ kb') ∧ Kept (SK S kb) w w'
end Go.Proofs.YtamiacmnobklaaaGreatDoor
/- The walk of add, by what first does. -/
set_option linter.unusedVariables false
namespace Go.Proofs.YtamiacmnobklaaaGreatDoor
open Go.RowKit

/-- The kept sums stand, wherever their list lies now. -/
def SumsUp (w : World) (base S : Nat) (l : List UInt8) (zv : Value) (w0 : World) (kb0 : Nat) : Prop :=
  ∃ kb cap K, SumsAt w base S l kb cap zv K ∧ (kb = kb0 ∨ w0.heap.size ≤ kb) ∧ Kept (SK S kb0) w0 w ∧ Tab w ∧ BTab w
theorem BTab.kept {w w' : World} {M : Nat → Prop} {base : Nat} (h : BTab w) (hk : Kept M w w') (hM : ∀ k, M k → base ≤ k) (hb : 1 < base) : BTab w' := by
  have hn : ¬ M 1 := fun m => by have := hM _ m; omega
  refine ⟨Nat.lt_of_lt_of_le h.1 hk.size, fun i hi => ?_⟩
  rw [World.cell?_of_block (w := w) (hk.block _ h.1 hn)]
  exact h.2 i hi
theorem SumsUp.cell {w : World} {base S : Nat} {l : List UInt8} {zv : Value} {w0 : World} {kb0 : Nat} (h : SumsUp w base S l zv w0 kb0) : w.cell? ⟨S, 2, none⟩ = some zv := by
  obtain ⟨kb, cap, K, hs, _⟩ := h
  rw [cell_of_row _ _ _ _ _ _ hs.heap]; rfl
theorem SumsUp.z {w : World} {base S : Nat} {l : List UInt8} {zv : Value} {w0 : World} {kb0 : Nat} (h : SumsUp w base S l zv w0 kb0) : ZRow w base zv 17 := by
  obtain ⟨kb, cap, K, hs, _⟩ := h
  exact hs.z
theorem SumsUp.bt {w : World} {base S : Nat} {l : List UInt8} {zv : Value} {w0 : World} {kb0 : Nat} (h : SumsUp w base S l zv w0 kb0) : BTab w := by
  obtain ⟨kb, cap, K, hs, _, _, _, h⟩ := h
  exact h
theorem SumsUp.start {w : World} {base S kb cap : Nat} {l : List UInt8} {zv : Value} {K : List Nat} (h : SumsAt w base S l kb cap zv K) (ht : Tab w) (hT : BTab w) : SumsUp w base S l zv w kb :=
  ⟨kb, cap, K, h, .inl rfl, Kept.refl _ _, ht, hT⟩
theorem SumsUp.drewN {w : World} {base S : Nat} {l : List UInt8} {zv : Value} {w0 : World} {kb0 : Nat} (h : SumsUp w base S l zv w0 kb0) (n : Nat) : SumsUp (w.drewN n) base S l zv w0 kb0 := by
  obtain ⟨kb, cap, K, hs, h1, h2, h3, h4⟩ := h
  exact ⟨kb, cap, K, hs.drewN n, h1, h2.drewN n, h3, h4⟩
theorem SumsUp.drew {w : World} {base S : Nat} {l : List UInt8} {zv : Value} {w0 : World} {kb0 : Nat} (h : SumsUp w base S l zv w0 kb0) : SumsUp w.drew base S l zv w0 kb0 := h.drewN 1
/-- first, from wherever the kept sums stand. -/
theorem first_up (F : FirstSpec) {base S n kb0 : Nat} {l : List UInt8} {zv : Value} {w w0 : World} (hl : l.length ≤ 1000000) (hn : n ≤ l.length) (hb : 1 < base) (hb0 : base ≤ w0.heap.size) (hkb : base ≤ kb0) (h : SumsUp w base S l zv w0 kb0) :
    Calls Tryz.prog 116 #[.pointer (some ⟨S, 0, none⟩), .int .i64 n] w fun e w' => e = .returned (.int .i64 (sumS (l.take n) : Nat)) ∧ SumsUp w' base S l zv w0 kb0 := by
  obtain ⟨kb, cap, K, hs, h1, h2, h3, h4⟩ := h
  refine (F base S n kb cap l zv K w hl hn hs (by omega) (Nat.le_trans hb0 h2.size) h3).mono ?_
  rintro e w' ⟨kb', cap', K', rfl, hs', hk', hkept⟩
  have hM : ∀ k, SK S kb k → base ≤ k := by
    rintro k (rfl | rfl)
    · exact hs.at'
    · exact hs.kb_at.1
  refine ⟨rfl, kb', cap', K', hs', ?_, kept_new h2 (hkept.mono fun k _ e => ?_), h3.kept hkept hM (by omega), h4.kept hkept hM hb⟩
  · rcases hk' with rfl | hk'
    · exact h1
    · right; have := h2.size; omega
  · rcases e with rfl | rfl
    · exact .inl (.inl rfl)
    · rcases h1 with rfl | h1
      · exact .inl (.inr rfl)
      · exact .inr h1

/-- What a sum becomes by a piece of the text, told by the kept sums. -/
theorem add_math (l : List UInt8) (s a b : Nat) (hab : a ≤ b) (hb : b ≤ l.length) : sumS (l.take b) ^^^ stpN (8 * (b - a)) (sumS (l.take a) ^^^ s) = addS s ((l.take b).drop a) := by
  have h1 := addS_lin s (sumS (l.take a) ^^^ s) ((l.take b).drop a)
  have e1 : s ^^^ (sumS (l.take a) ^^^ s) = sumS (l.take a) := by rw [Nat.xor_comm (sumS _), xor_twice]
  have e2 : ((l.take b).drop a).length = b - a := by simp; omega
  rw [e1, e2, sum_piece l a b hab] at h1
  rw [h1, Nat.xor_assoc, Nat.xor_self, Nat.xor_zero]

set_option maxRecDepth 100000 in
set_option maxHeartbeats 2000000 in
theorem sadd_any (F : FirstSpec) (base S s a b kb0 : Nat) (l : List UInt8) (zv : Value) (w w0 : World) (hl : l.length ≤ 1000000) (hab : a ≤ b) (hbl : b ≤ l.length) (hba : b - a ≤ 65536) (hs : s < 4294967296)
    (hb : 1 < base) (hb0 : base ≤ w0.heap.size) (hkb : base ≤ kb0) (h : SumsUp w base S l zv w0 kb0) :
    Calls Tryz.prog 82 #[.pointer (some ⟨S, 0, none⟩), .int .i64 s, .int .i64 a, .int .i64 b] w fun e w' => e = .returned (.int .i64 (addS s ((l.take b).drop a) : Nat)) ∧ SumsUp w' base S l zv w0 kb0 := by
  have HM := Lib.hid (add_math l s a b hab hbl)
  have FA := fun w' h => Lib.hid (first_up F (S := S) (zv := zv) (n := a) (w := w') hl (by omega) hb hb0 hkb h)
  have FB := fun w' h => Lib.hid (first_up F (S := S) (zv := zv) (n := b) (w := w') hl hbl hb hb0 hkb h)
  have c2 := h.cell
  have hsa := sumS_lt (l.take a)
  have hsb := sumS_lt (l.take b)
  have e1 := i64_xor_nat (sumS (l.take a)) s (by omega) (by omega)
  have hx := Nat.xor_lt_two_pow (n := 32) (x := sumS (l.take a)) (y := s) (by omega) (by omega)
  have hst := stpN_lt (8 * (b - a)) (sumS (l.take a) ^^^ s) (by omega)
  have e2 := i64_xor_nat (sumS (l.take b)) (stpN (8 * (b - a)) (sumS (l.take a) ^^^ s)) (by omega) (by omega)
  rw [HM.out] at e2
  have p17 : (2 : Nat) ^ 17 = 131072 := by decide
  have h17 : b - a < 2 ^ 17 := by omega
  clear p17
  have M := fun w' hz hT => Lib.hid (move_any ((sumS (l.take a) ^^^ s : Nat) : Int) (sumS (l.take a) ^^^ s) (b - a) 17 base zv w' (by omega) (by omega) h17 (by omega) (by omega) hz hT)
  have W1 : IntKind.i64.wrap ((b : Int) - (a : Int)) = ((b - a : Nat) : Int) := by rw [IntWalk.i64_in _ (by omega)]; omega
  have H := Lib.hid h; clear h
  generalize sumS (l.take a) ^^^ s = x at *
  generalize sumS (l.take a) = sa at *
  generalize sumS (l.take b) = sb at *
  generalize stpN (8 * (b - a)) x = y at *
  generalize b - a = n at *
  generalize addS s ((l.take b).drop a) = r at *
  clear h17
  go_enter Tryz.func82, Tryz.ntmps82
  go_wp2
  go_region_held3 (fun w' => w'.cell? ⟨S, 2, none⟩ = some zv ∧ Hid (SumsUp w' base S l zv w0 kb0))
    (first
      | (go_split_ands; refine ⟨?_, ?_⟩ <;> first | assumption | exact cell_drew (by assumption) | exact Lib.hid (SumsUp.drew (Hid.out (by assumption))) | exact SumsUp.cell (by assumption) | exact Lib.hid (by assumption) | exact Lib.hid (SumsUp.drewN (Hid.out (by assumption)) _)))
    (first
      | (go_at_call_of 116 (Value.int .i64 b); go_split_ands; refine (FB _ (Hid.out (by assumption))).out.mono ?_; rintro e w' ⟨rfl, hup⟩)
      | (go_at_call_of 116 (Value.int .i64 a); go_split_ands; refine (FA _ (Hid.out (by assumption))).out.mono ?_; rintro e w' ⟨rfl, hup⟩)
      | (go_at_call 117; go_split_ands; refine (M _ (SumsUp.z (Hid.out (by assumption))) (SumsUp.bt (Hid.out (by assumption)))).out.mono ?_; rintro e w' ⟨m, rfl, rfl⟩))
  go_wp2
  go_ret
  exact ⟨rfl, SumsUp.drewN hup _⟩
end Go.Proofs.YtamiacmnobklaaaGreatDoor
/- The walk of newSums. -/
set_option linter.unusedVariables false
namespace Go.Proofs.YtamiacmnobklaaaGreatDoor
open Go.RowKit

theorem bitLen_64k : Lib.bitLen 65536 = 17 := by decide +kernel
theorem zrow_slice {w : World} {base n : Nat} {v : Value} (h : ZRow w base v n) : ∃ p m cap, v = .slice p m cap := by
  rcases h.2 with ⟨rfl, _⟩ | ⟨g, cap, cur, rfl, _⟩
  · exact ⟨_, _, _, rfl⟩
  · exact ⟨_, _, _, rfl⟩
theorem newSums_at {w w1 : World} (l : List UInt8) (zv : Value) (hz : ZRow w1 (w.alloc (.cells #[.int .i64 0] 3)).heap.size zv 17) (hb : Below (w.alloc (.cells #[.int .i64 0] 3)).heap.size (w.alloc (.cells #[.int .i64 0] 3)) w1) (S : Nat) (hS : S = w1.heap.size) :
    SumsAt (w1.alloc (.cells #[.string ⟨l.toArray⟩, .slice (some ⟨w.heap.size, 0, none⟩) 1 1, zv] 161)) w.heap.size S l w.heap.size 1 zv [0] ∧
      Below w.heap.size w (w1.alloc (.cells #[.string ⟨l.toArray⟩, .slice (some ⟨w.heap.size, 0, none⟩) 1 1, zv] 161)) := by
  subst hS
  have hlt : w.heap.size < w1.heap.size := by have := hb.size; simp at this; omega
  have hblk : w1.heap[w.heap.size]? = some (.cells #[.int .i64 0] 3 (0, 0)) := by
    rw [hb.block w.heap.size (by simp)]
    exact heap_alloc_new _ _
  have hB0 : Below w.heap.size w (w.alloc (.cells #[.int .i64 0] 3)) := (Below.refl _ _).alloc (Nat.le_refl _) _
  refine ⟨⟨heap_alloc_new _ _, ?_, ?_, Good.start l, Nat.le_of_lt hlt⟩, hB0.trans ((hb.mono hB0.size).alloc (Nat.le_of_lt hlt) _)⟩
  · have own0 : OwnL encN w1 w.heap.size 3 (.slice (some ⟨w.heap.size, 0, none⟩) 1 1) [0] := by
      refine ⟨rfl, .inr ⟨w.heap.size, 1, _, rfl, Nat.le_refl _, hblk, ?_⟩⟩
      exact ⟨Nat.le_refl _, by decide, rfl, rfl⟩
    exact World.ownsRow.alloc own0 _
  · exact World.ownsRow.alloc (World.ownsRow.mono hz (by simp)) _

set_option maxRecDepth 100000 in
set_option maxHeartbeats 2000000 in
theorem newSums_any (l : List UInt8) (w : World) (ht : Tab w) (hT : BTab w) :
    Calls Tryz.prog 80 #[.string ⟨l.toArray⟩] w fun e w' => ∃ S kb cap zv, e = .returned (.pointer (some ⟨S, 0, none⟩)) ∧ SumsAt w' w.heap.size S l kb cap zv [0] ∧ Below w.heap.size w w' := by
  have hn : (65536 : Nat) ≤ 140737488351232 := by decide
  have Z := fun w hT ht => Lib.hid (zeros_any 65536 w hn ht hT)
  rw [bitLen_64k] at Z
  have hB0 : Below w.heap.size w (w.alloc (.cells #[.int .i64 0] 3)) := (Below.refl _ _).alloc (Nat.le_refl _) _
  have T := Lib.hid (ht.below hB0); clear ht
  have B := Lib.hid (hT.below hB0); clear hT hB0
  go_enter Tryz.func80, Tryz.ntmps80
  go_wp2_with fail
  refine (Z _ B.out T.out).out.mono ?_
  rintro e w1 ⟨zv, rfl, hz, hb1⟩
  obtain ⟨p, m, cap, rfl⟩ := zrow_slice hz
  have R := Lib.hid (newSums_at l _ hz hb1 _ rfl)
  clear hz hb1
  go_wp2
  go_ret
  exact ⟨_, _, _, _, rfl, R.out.1, R.out.2⟩
end Go.Proofs.YtamiacmnobklaaaGreatDoor
/- Walks of four, number and Frame, and of the document's own. -/
set_option linter.unusedVariables false
namespace Go.Proofs.YtamiacmnobklaaaGreatDoor
open Go.RowKit

theorem toArray_append (a b : List UInt8) : (ByteArray.mk a.toArray) ++ (ByteArray.mk b.toArray) = ⟨(a ++ b).toArray⟩ := by
  rw [ByteArray.ext_iff]; simp
/-- A number in four bytes, the lowest first. -/
def fourB (n : Nat) : List UInt8 := [UInt8.ofNat n, UInt8.ofNat (n / 256), UInt8.ofNat (n / 65536), UInt8.ofNat (n / 16777216)]

theorem four_cells (n : Nat) (w : World) (hn : n < 4294967296) :
    (convert 105 9 (Value.slice (some ⟨w.heap.size, 0, none⟩) 4 4)).run Tryz.prog
      (w.alloc (.cells #[.int .u8 ((n : Int) % 256), .int .u8 ((n : Int) / 256 % 256), .int .u8 ((n : Int) / 65536 % 256), .int .u8 ((n : Int) / 16777216)] 5)) =
    .ok (.string ⟨(fourB n).toArray⟩) (w.alloc (.cells #[.int .u8 ((n : Int) % 256), .int .u8 ((n : Int) / 256 % 256), .int .u8 ((n : Int) / 65536 % 256), .int .u8 ((n : Int) / 16777216)] 5)) := by
  refine run_convert_bytes_back (P := Tryz.prog) _ 105 9 5 ⟨w.heap.size, 0, none⟩ 4 (fourB n) Tryz.underlying105 Tryz.underlying5 Tryz.underlying9 ?_
  intro j hj
  match j, hj with
  | 0, _ => simp [Addr.add, fourB, UInt8.toNat_ofNat']
  | 1, _ => simp [Addr.add, fourB, UInt8.toNat_ofNat']
  | 2, _ => simp [Addr.add, fourB, UInt8.toNat_ofNat']
  | 3, _ => simp [Addr.add, fourB, UInt8.toNat_ofNat']; omega
set_option maxRecDepth 100000 in
theorem four_any (n : Nat) (w : World) (hn : n < 4294967296) :
    Calls Tryz.prog 112 #[.int .i64 n] w fun e w' => e = .returned (.string ⟨(fourB n).toArray⟩) ∧ Below w.heap.size w w' := by
  have H := Lib.hid (four_cells n w hn)
  go_enter Tryz.func112, Tryz.ntmps112
  go_wp2
  rw [H.out]
  go_wp2
  go_ret
  exact ⟨rfl, (Below.refl _ _).alloc (Nat.le_refl _) _⟩

theorem fourB_take (n k : Nat) (h : k < 4) : (fourB n).take (k + 1) = (fourB n).take k ++ [UInt8.ofNat (n / 256 ^ k)] := by
  match k, h with
  | 0, _ => simp [fourB]
  | 1, _ => simp [fourB]
  | 2, _ => simp [fourB]
  | 3, _ => simp [fourB]

theorem or_up (x y : Int) (i : Nat) (hx0 : 0 ≤ x) (hx : x < 2 ^ i) (hy0 : 0 ≤ y) (hy : y % 2 ^ i = 0) (hy1 : y < 2 ^ 63) (hx1 : x < 2 ^ 63) : bits .or .i64 x y = x + y := by
  rw [i64_or_comm, i64_or_join i y x hy0 hy hy1 hx0 hx hx1]
  omega

set_option maxHeartbeats 400000 in
theorem number_any (a b c d : UInt8) (w : World) :
    Calls Tryz.prog 119 #[.string ⟨#[a, b, c, d]⟩] w fun e w' => ∃ n, e = .returned (.int .i64 (numL [a, b, c, d] : Nat)) ∧ w' = w.drewN n := by
  have ha := a.toNat_lt
  have hb := b.toNat_lt
  have hc := c.toNat_lt
  have hd := d.toNat_lt
  have i0 : (⟨#[a, b, c, d]⟩ : ByteArray)[0]'(by simp [ByteArray.size]) = a := rfl
  have i1 : (⟨#[a, b, c, d]⟩ : ByteArray)[1]'(by simp [ByteArray.size]) = b := rfl
  have i2 : (⟨#[a, b, c, d]⟩ : ByteArray)[2]'(by simp [ByteArray.size]) = c := rfl
  have i3 : (⟨#[a, b, c, d]⟩ : ByteArray)[3]'(by simp [ByteArray.size]) = d := rfl
  have e1 := or_up (a.toNat : Int) ((b.toNat : Int) * 256) 8 (by omega) (by omega) (by omega) (by omega) (by omega) (by omega)
  have e2 := or_up ((a.toNat : Int) + (b.toNat : Int) * 256) ((c.toNat : Int) * 65536) 16 (by omega) (by omega) (by omega) (by omega) (by omega) (by omega)
  have e3 := or_up ((a.toNat : Int) + (b.toNat : Int) * 256 + (c.toNat : Int) * 65536) ((d.toNat : Int) * 16777216) 24 (by omega) (by omega) (by omega) (by omega) (by omega) (by omega)
  have Hn := Lib.hid (show ((a.toNat : Int) + (b.toNat : Int) * 256 + (c.toNat : Int) * 65536 + (d.toNat : Int) * 16777216) = (numL [a, b, c, d] : Nat) by simp only [numL]; omega)
  go_enter Tryz.func119, Tryz.ntmps119
  go_wp2
  go_quiet (fail)
  go_wp2
  go_ret
  rw [Hn.out]
  exact ⟨_, rfl, rfl⟩

def numR : List UInt8 → Nat := numL
theorem refNumber_any (a b c d : UInt8) (w : World) :
    Calls Tryz.prog 84 #[.string ⟨#[a, b, c, d]⟩] w fun e w' => e = .returned (.int .i64 (numL [a, b, c, d] : Nat)) ∧ w = w' := by
  have ha := a.toNat_lt
  have hb := b.toNat_lt
  have hc := c.toNat_lt
  have hd := d.toNat_lt
  have i0 : (⟨#[a, b, c, d]⟩ : ByteArray)[0]'(by simp [ByteArray.size]) = a := rfl
  have i1 : (⟨#[a, b, c, d]⟩ : ByteArray)[1]'(by simp [ByteArray.size]) = b := rfl
  have i2 : (⟨#[a, b, c, d]⟩ : ByteArray)[2]'(by simp [ByteArray.size]) = c := rfl
  have i3 : (⟨#[a, b, c, d]⟩ : ByteArray)[3]'(by simp [ByteArray.size]) = d := rfl
  have Hn := Lib.hid (show (256 * (256 * (256 * (d.toNat : Int) + (c.toNat : Int)) + (b.toNat : Int)) + (a.toNat : Int)) = (numL [a, b, c, d] : Nat) by simp only [numL]; omega)
  go_enter Tryz.func84, Tryz.ntmps84
  go_wp2
  refine wp_loop_rounds 5 ?_
  rw [rounds_succ]
  go_wp2
  rw [rounds_succ]
  go_wp2
  rw [rounds_succ]
  go_wp2
  rw [rounds_succ]
  go_wp2
  rw [rounds_succ]
  go_wp2
  go_ret
  rw [← Hn.out]
  exact ⟨rfl, rfl⟩

def frameB (l : List UInt8) : List UInt8 := [181, 126] ++ fourB l.length ++ fourB (sumS (fourB l.length ++ l)) ++ l
theorem fourB_length (n : Nat) : (fourB n).length = 4 := rfl
theorem frameB_length (l : List UInt8) : (frameB l).length = l.length + 10 := by simp [frameB, fourB_length]; omega

set_option maxHeartbeats 400000 in
theorem frame_ok (l : List UInt8) (w : World) (hl : l.length ≤ 65536) (ht : Tab w) :
    Calls Tryz.prog 79 #[.string ⟨l.toArray⟩] w fun e w' => e = .returned (.tuple #[.string ⟨(frameB l).toArray⟩, .int .i64 0]) ∧ Below w.heap.size w w' := by
  have L := Lib.hid (show (⟨l.toArray⟩ : ByteArray).size = l.length from rfl)
  have F1 := fun w => Lib.hid (four_any l.length w (by omega))
  have hq := sumS_lt (fourB l.length)
  have hq2 := sumS_lt (fourB l.length ++ l)
  have S1 := fun w ht => Lib.hid (sum_any (fourB l.length) w (by simp [fourB_length]) ht)
  have A1 := fun w ht => Lib.hid (add_any (sumS (fourB l.length) : Nat) (sumS (fourB l.length)) l w (by omega) hq (by omega) ht)
  rw [← sumS_append] at A1
  have F2 := fun w => Lib.hid (four_any (sumS (fourB l.length ++ l)) w hq2)
  have E1 := toArray_append [181, 126] (fourB l.length)
  have E2 := toArray_append ([181, 126] ++ fourB l.length) (fourB (sumS (fourB l.length ++ l)))
  have E3 := toArray_append ([181, 126] ++ fourB l.length ++ fourB (sumS (fourB l.length ++ l))) l
  have E := Lib.hid (show [181, 126] ++ fourB l.length ++ fourB (sumS (fourB l.length ++ l)) ++ l = frameB l from rfl)
  rw [E.out] at E3
  have l1 : ([181, 126] ++ fourB l.length).length ≤ 6 := Nat.le_refl _
  have l2 : ([181, 126] ++ fourB l.length ++ fourB (sumS (fourB l.length ++ l))).length ≤ 10 := Nat.le_refl _
  have l3 : (fourB l.length).length ≤ 4 := Nat.le_refl _
  have l4 : (fourB (sumS (fourB l.length ++ l))).length ≤ 4 := Nat.le_refl _
  have T := Lib.hid ht
  clear ht
  generalize fourB (sumS (fourB l.length ++ l)) = f2 at *
  generalize sumS (fourB l.length ++ l) = s2 at *
  generalize sumS (fourB l.length) = s1 at *
  generalize fourB l.length = f1 at *
  generalize [181, 126] ++ f1 ++ f2 = g2 at *
  generalize [181, 126] ++ f1 = g1 at *
  go_enter Tryz.func79, Tryz.ntmps79
  go_wp2_with fail
  refine (F1 _).out.mono ?_
  rintro e w1 ⟨rfl, hb1⟩
  have T1 := Lib.hid (T.out.below hb1)
  go_wp2_with fail
  refine (S1 _ T1.out).out.mono ?_
  rintro e w1 ⟨rfl, rfl⟩
  go_wp2_with fail
  refine (A1 _ T1.out).out.mono ?_
  rintro e w1 ⟨rfl, rfl⟩
  go_wp2_with fail
  refine (F2 _).out.mono ?_
  rintro e w2 ⟨rfl, hb2⟩
  go_wp2
  go_ret2
  exact ⟨rfl, hb1.trans (hb2.mono hb1.size)⟩

theorem frame_no (l : List UInt8) (w : World) (hl : 65536 < l.length) (hl2 : l.length ≤ 140737488351232) :
    Calls Tryz.prog 79 #[.string ⟨l.toArray⟩] w fun e w' => e = .returned (.tuple #[.string ⟨#[]⟩, .int .i64 4]) ∧ w = w' := by
  have L := Lib.hid (show (⟨l.toArray⟩ : ByteArray).size = l.length from rfl)
  go_enter Tryz.func79, Tryz.ntmps79
  go_wp2
  go_ret2
  exact ⟨rfl, rfl⟩

end Go.Proofs.YtamiacmnobklaaaGreatDoor
/- Walks of payloadSize, one, One, and of the document's One. -/
set_option linter.unusedVariables false
namespace Go.Proofs.YtamiacmnobklaaaGreatDoor
open Go.RowKit

def headBad : List UInt8 → Bool
  | [] => false
  | [a] => a != 181
  | a :: b :: _ => a != 181 || b != 126
/-- How long the payload is of the frame with which bytes begin. -/
def payS (l : List UInt8) : Nat × Nat :=
  if headBad l then (0, 5) else if l.length < 6 then (0, 3) else
    if 65536 < numL ((l.take 6).drop 2) then (0, 4) else if l.length < 10 + numL ((l.take 6).drop 2) then (0, 3) else (numL ((l.take 6).drop 2), 0)
theorem headBad_long (l : List UInt8) (a b : UInt8) (h : l.take 2 = [a, b]) : headBad l = (a != 181 || b != 126) := by
  match l, h with
  | x :: y :: t, h =>
    simp at h
    obtain ⟨rfl, rfl⟩ := h
    rfl
theorem take2 (l : List UInt8) (h : 2 ≤ l.length) : ∃ a b, l.take 2 = [a, b] := by
  match l, h with
  | x :: y :: t, _ => exact ⟨x, y, rfl⟩
theorem four_of (l : List UInt8) (h : l.length = 4) : ∃ a b c d, l = [a, b, c, d] := by
  match l, h with
  | [a, b, c, d], _ => exact ⟨a, b, c, d, rfl⟩
theorem take26 (l : List UInt8) (h : 6 ≤ l.length) : ∃ a b c d, (l.take 6).drop 2 = [a, b, c, d] := four_of _ (by simp; omega)
theorem take610 (l : List UInt8) (h : 10 ≤ l.length) : ∃ a b c d, (l.take 10).drop 6 = [a, b, c, d] := four_of _ (by simp; omega)
theorem payS_ok (l : List UInt8) (h : (payS l).2 = 0) : 10 + (payS l).1 ≤ l.length ∧ (payS l).1 ≤ 65536 ∧ (payS l).1 = numL ((l.take 6).drop 2) := by
  unfold payS at h ⊢
  by_cases h1 : headBad l
  · rw [if_pos h1] at h; exact absurd h (by decide)
  · rw [if_neg h1] at h ⊢
    by_cases h2 : l.length < 6
    · rw [if_pos h2] at h; exact absurd h (by decide)
    · rw [if_neg h2] at h ⊢
      by_cases h3 : 65536 < numL ((l.take 6).drop 2)
      · rw [if_pos h3] at h; exact absurd h (by decide)
      · rw [if_neg h3] at h ⊢
        by_cases h4 : l.length < 10 + numL ((l.take 6).drop 2)
        · rw [if_pos h4] at h; exact absurd h (by decide)
        · rw [if_neg h4]
          exact ⟨by simp only; omega, by simp only; omega, rfl⟩
theorem payS_bad (l : List UInt8) (h : (payS l).2 ≠ 0) : (payS l).1 = 0 := by
  unfold payS at h ⊢
  by_cases h1 : headBad l
  · rw [if_pos h1]
  · rw [if_neg h1] at h ⊢
    by_cases h2 : l.length < 6
    · rw [if_pos h2]
    · rw [if_neg h2] at h ⊢
      by_cases h3 : 65536 < numL ((l.take 6).drop 2)
      · rw [if_pos h3]
      · rw [if_neg h3] at h ⊢
        by_cases h4 : l.length < 10 + numL ((l.take 6).drop 2)
        · rw [if_pos h4]
        · rw [if_neg h4] at h; exact absurd rfl h
theorem pay_0 (w : World) :
    Calls Tryz.prog 118 #[.string ⟨#[]⟩] w fun e w' => e = .returned (.tuple #[.int .i64 0, .int .i64 3]) ∧ Below w.heap.size w w' := by
  have E0 : (⟨#[181, 126]⟩ : ByteArray).extract 0 0 = ⟨#[]⟩ := by decide +kernel
  go_enter Tryz.func118, Tryz.ntmps118
  go_wp2
  go_quiet (fail)
  go_wp2
  go_ret2
  exact ⟨rfl, Below_drewN (Below.refl _ _) _⟩
theorem pay_1no (a : UInt8) (w : World) (ha : (a == 181) = false) :
    Calls Tryz.prog 118 #[.string ⟨#[a]⟩] w fun e w' => e = .returned (.tuple #[.int .i64 0, .int .i64 5]) ∧ Below w.heap.size w w' := by
  have E0 : (⟨#[181, 126]⟩ : ByteArray).extract 0 1 = ⟨#[181]⟩ := by decide +kernel
  have E : (⟨#[a]⟩ : ByteArray).extract 0 1 = ⟨#[a]⟩ := take_toArray [a] 1
  go_enter Tryz.func118, Tryz.ntmps118
  go_wp2
  go_quiet (fail)
  go_wp2
  go_ret2
  exact ⟨rfl, Below_drewN (Below.refl _ _) _⟩
theorem pay_1ok (a : UInt8) (w : World) (ha : (a == 181) = true) :
    Calls Tryz.prog 118 #[.string ⟨#[a]⟩] w fun e w' => e = .returned (.tuple #[.int .i64 0, .int .i64 3]) ∧ Below w.heap.size w w' := by
  have E0 : (⟨#[181, 126]⟩ : ByteArray).extract 0 1 = ⟨#[181]⟩ := by decide +kernel
  have E : (⟨#[a]⟩ : ByteArray).extract 0 1 = ⟨#[a]⟩ := take_toArray [a] 1
  go_enter Tryz.func118, Tryz.ntmps118
  go_wp2
  go_quiet (fail)
  go_wp2
  go_ret2
  exact ⟨rfl, Below_drewN (Below.refl _ _) _⟩
theorem pay_2no1 (a b : UInt8) (w : World) (ha : (a == 181) = false) :
    Calls Tryz.prog 118 #[.string ⟨#[a, b]⟩] w fun e w' => e = .returned (.tuple #[.int .i64 0, .int .i64 5]) ∧ Below w.heap.size w w' := by
  have E0 : (⟨#[181, 126]⟩ : ByteArray).extract 0 2 = ⟨#[181, 126]⟩ := by decide +kernel
  have E : (⟨#[a, b]⟩ : ByteArray).extract 0 2 = ⟨#[a, b]⟩ := take_toArray [a, b] 2
  go_enter Tryz.func118, Tryz.ntmps118
  go_wp2
  go_quiet (fail)
  go_wp2
  go_ret2
  exact ⟨rfl, Below_drewN (Below.refl _ _) _⟩
theorem pay_2no2 (a b : UInt8) (w : World) (ha : (a == 181) = true) (hb : (b == 126) = false) :
    Calls Tryz.prog 118 #[.string ⟨#[a, b]⟩] w fun e w' => e = .returned (.tuple #[.int .i64 0, .int .i64 5]) ∧ Below w.heap.size w w' := by
  have E0 : (⟨#[181, 126]⟩ : ByteArray).extract 0 2 = ⟨#[181, 126]⟩ := by decide +kernel
  have E : (⟨#[a, b]⟩ : ByteArray).extract 0 2 = ⟨#[a, b]⟩ := take_toArray [a, b] 2
  go_enter Tryz.func118, Tryz.ntmps118
  go_wp2
  go_quiet (fail)
  go_wp2
  go_ret2
  exact ⟨rfl, Below_drewN (Below.refl _ _) _⟩
theorem pay_2ok (a b : UInt8) (w : World) (ha : (a == 181) = true) (hb : (b == 126) = true) :
    Calls Tryz.prog 118 #[.string ⟨#[a, b]⟩] w fun e w' => e = .returned (.tuple #[.int .i64 0, .int .i64 3]) ∧ Below w.heap.size w w' := by
  have E0 : (⟨#[181, 126]⟩ : ByteArray).extract 0 2 = ⟨#[181, 126]⟩ := by decide +kernel
  have E : (⟨#[a, b]⟩ : ByteArray).extract 0 2 = ⟨#[a, b]⟩ := take_toArray [a, b] 2
  go_enter Tryz.func118, Tryz.ntmps118
  go_wp2
  go_quiet (fail)
  go_wp2
  go_ret2
  exact ⟨rfl, Below_drewN (Below.refl _ _) _⟩
theorem pay_3no1 (l : List UInt8) (a b : UInt8) (w : World) (hl : l.length ≤ 140737488351232) (h3 : 3 ≤ l.length) (h2 : l.take 2 = [a, b]) (ha : (a == 181) = false) :
    Calls Tryz.prog 118 #[.string ⟨l.toArray⟩] w fun e w' => e = .returned (.tuple #[.int .i64 0, .int .i64 5]) ∧ Below w.heap.size w w' := by
  have L := Lib.hid (show (⟨l.toArray⟩ : ByteArray).size = l.length from rfl)
  have E := take_toArray l 2
  rw [h2] at E
  have h2' : 2 < l.length := by omega
  clear h2
  have E0 : (⟨#[181, 126]⟩ : ByteArray).extract 0 2 = ⟨#[181, 126]⟩ := by decide +kernel
  go_enter Tryz.func118, Tryz.ntmps118
  go_wp2
  go_quiet (fail)
  go_wp2
  go_ret2
  exact ⟨rfl, Below_drewN (Below.refl _ _) _⟩
theorem pay_3no2 (l : List UInt8) (a b : UInt8) (w : World) (hl : l.length ≤ 140737488351232) (h3 : 3 ≤ l.length) (h2 : l.take 2 = [a, b]) (ha : (a == 181) = true) (hb : (b == 126) = false) :
    Calls Tryz.prog 118 #[.string ⟨l.toArray⟩] w fun e w' => e = .returned (.tuple #[.int .i64 0, .int .i64 5]) ∧ Below w.heap.size w w' := by
  have L := Lib.hid (show (⟨l.toArray⟩ : ByteArray).size = l.length from rfl)
  have E := take_toArray l 2
  rw [h2] at E
  have h2' : 2 < l.length := by omega
  clear h2
  have E0 : (⟨#[181, 126]⟩ : ByteArray).extract 0 2 = ⟨#[181, 126]⟩ := by decide +kernel
  go_enter Tryz.func118, Tryz.ntmps118
  go_wp2
  go_quiet (fail)
  go_wp2
  go_ret2
  exact ⟨rfl, Below_drewN (Below.refl _ _) _⟩
theorem pay_3short (l : List UInt8) (a b : UInt8) (w : World) (hl : l.length ≤ 140737488351232) (h3 : 3 ≤ l.length) (h2 : l.take 2 = [a, b]) (ha : (a == 181) = true) (hb : (b == 126) = true) (h6 : l.length < 6) :
    Calls Tryz.prog 118 #[.string ⟨l.toArray⟩] w fun e w' => e = .returned (.tuple #[.int .i64 0, .int .i64 3]) ∧ Below w.heap.size w w' := by
  have L := Lib.hid (show (⟨l.toArray⟩ : ByteArray).size = l.length from rfl)
  have E := take_toArray l 2
  rw [h2] at E
  have h2' : 2 < l.length := by omega
  clear h2
  have E0 : (⟨#[181, 126]⟩ : ByteArray).extract 0 2 = ⟨#[181, 126]⟩ := by decide +kernel
  go_enter Tryz.func118, Tryz.ntmps118
  go_wp2
  go_quiet (fail)
  go_wp2
  go_ret2
  exact ⟨rfl, Below_drewN (Below.refl _ _) _⟩
theorem numL4 (a b c d : UInt8) : numL [a, b, c, d] < 4294967296 := by
  have := a.toNat_lt
  have := b.toNat_lt
  have := c.toNat_lt
  have := d.toNat_lt
  simp only [numL]
  omega
theorem pay_6long (l : List UInt8) (a b : UInt8) (w : World) (hl : l.length ≤ 140737488351232) (h3 : 3 ≤ l.length) (h2 : l.take 2 = [a, b]) (ha : (a == 181) = true) (hb : (b == 126) = true) (h6 : 6 ≤ l.length) (c d x y : UInt8) (h4 : (l.take 6).drop 2 = [c, d, x, y]) (hq : 65536 < numL [c, d, x, y]) :
    Calls Tryz.prog 118 #[.string ⟨l.toArray⟩] w fun e w' => e = .returned (.tuple #[.int .i64 0, .int .i64 4]) ∧ Below w.heap.size w w' := by
  have L := Lib.hid (show (⟨l.toArray⟩ : ByteArray).size = l.length from rfl)
  have E := take_toArray l 2
  rw [h2] at E
  have h2' : 2 < l.length := by omega
  clear h2
  have E0 : (⟨#[181, 126]⟩ : ByteArray).extract 0 2 = ⟨#[181, 126]⟩ := by decide +kernel
  have E2 := slice_toArray l 2 6
  rw [h4] at E2
  clear h4
  have N := fun w => Lib.hid (number_any c d x y w)
  have hn := numL4 c d x y
  generalize numL [c, d, x, y] = n at *
  go_enter Tryz.func118, Tryz.ntmps118
  go_wp2
  go_quiet (fail)
  go_wp2_with fail
  refine (N _).out.mono ?_
  rintro e w1 ⟨n1, rfl, rfl⟩
  go_wp2
  go_ret2
  exact ⟨rfl, Below_drewN (Below.refl _ _) _⟩
theorem pay_6short (l : List UInt8) (a b : UInt8) (w : World) (hl : l.length ≤ 140737488351232) (h3 : 3 ≤ l.length) (h2 : l.take 2 = [a, b]) (ha : (a == 181) = true) (hb : (b == 126) = true) (h6 : 6 ≤ l.length) (c d x y : UInt8) (h4 : (l.take 6).drop 2 = [c, d, x, y]) (hq : numL [c, d, x, y] ≤ 65536) (hr : l.length < 10 + numL [c, d, x, y]) :
    Calls Tryz.prog 118 #[.string ⟨l.toArray⟩] w fun e w' => e = .returned (.tuple #[.int .i64 0, .int .i64 3]) ∧ Below w.heap.size w w' := by
  have L := Lib.hid (show (⟨l.toArray⟩ : ByteArray).size = l.length from rfl)
  have E := take_toArray l 2
  rw [h2] at E
  have h2' : 2 < l.length := by omega
  clear h2
  have E0 : (⟨#[181, 126]⟩ : ByteArray).extract 0 2 = ⟨#[181, 126]⟩ := by decide +kernel
  have E2 := slice_toArray l 2 6
  rw [h4] at E2
  clear h4
  have N := fun w => Lib.hid (number_any c d x y w)
  have hn := numL4 c d x y
  generalize numL [c, d, x, y] = n at *
  go_enter Tryz.func118, Tryz.ntmps118
  go_wp2
  go_quiet (fail)
  go_wp2_with fail
  refine (N _).out.mono ?_
  rintro e w1 ⟨n1, rfl, rfl⟩
  go_wp2
  go_ret2
  exact ⟨rfl, Below_drewN (Below.refl _ _) _⟩
theorem pay_6ok (l : List UInt8) (a b : UInt8) (w : World) (hl : l.length ≤ 140737488351232) (h3 : 3 ≤ l.length) (h2 : l.take 2 = [a, b]) (ha : (a == 181) = true) (hb : (b == 126) = true) (h6 : 6 ≤ l.length) (c d x y : UInt8) (h4 : (l.take 6).drop 2 = [c, d, x, y]) (hq : numL [c, d, x, y] ≤ 65536) (hr : 10 + numL [c, d, x, y] ≤ l.length) :
    Calls Tryz.prog 118 #[.string ⟨l.toArray⟩] w fun e w' => e = .returned (.tuple #[.int .i64 (numL [c, d, x, y] : Nat), .int .i64 0]) ∧ Below w.heap.size w w' := by
  have L := Lib.hid (show (⟨l.toArray⟩ : ByteArray).size = l.length from rfl)
  have E := take_toArray l 2
  rw [h2] at E
  have h2' : 2 < l.length := by omega
  clear h2
  have E0 : (⟨#[181, 126]⟩ : ByteArray).extract 0 2 = ⟨#[181, 126]⟩ := by decide +kernel
  have E2 := slice_toArray l 2 6
  rw [h4] at E2
  clear h4
  have N := fun w => Lib.hid (number_any c d x y w)
  have hn := numL4 c d x y
  generalize numL [c, d, x, y] = n at *
  go_enter Tryz.func118, Tryz.ntmps118
  go_wp2
  go_quiet (fail)
  go_wp2_with fail
  refine (N _).out.mono ?_
  rintro e w1 ⟨n1, rfl, rfl⟩
  go_wp2
  go_ret2
  exact ⟨rfl, Below_drewN (Below.refl _ _) _⟩

theorem pay_any (l : List UInt8) (w : World) (hl : l.length ≤ 140737488351232) :
    Calls Tryz.prog 118 #[.string ⟨l.toArray⟩] w fun e w' => e = .returned (.tuple #[.int .i64 (payS l).1, .int .i64 (payS l).2]) ∧ Below w.heap.size w w' := by
  by_cases h3 : 3 ≤ l.length
  · obtain ⟨a, b, h2⟩ := take2 l (by omega)
    have hh := headBad_long l a b h2
    cases ha : (a == 181) with
    | false =>
      have e : payS l = (0, 5) := by unfold payS; rw [hh, if_pos (by simp [bne, ha])]
      rw [e]
      exact pay_3no1 l a b w hl h3 h2 ha
    | true =>
      cases hb : (b == 126) with
      | false =>
        have e : payS l = (0, 5) := by unfold payS; rw [hh, if_pos (by simp [bne, hb])]
        rw [e]
        exact pay_3no2 l a b w hl h3 h2 ha hb
      | true =>
        have hn : ¬ headBad l = true := by rw [hh]; simp [bne, ha, hb]
        by_cases h6 : l.length < 6
        · have e : payS l = (0, 3) := by unfold payS; rw [if_neg hn, if_pos h6]
          rw [e]
          exact pay_3short l a b w hl h3 h2 ha hb h6
        · obtain ⟨c, d, x, y, h4⟩ := take26 l (by omega)
          by_cases hq : 65536 < numL [c, d, x, y]
          · have e : payS l = (0, 4) := by unfold payS; rw [if_neg hn, if_neg h6, h4, if_pos hq]
            rw [e]
            exact pay_6long l a b w hl h3 h2 ha hb (by omega) c d x y h4 hq
          · by_cases hr : l.length < 10 + numL [c, d, x, y]
            · have e : payS l = (0, 3) := by unfold payS; rw [if_neg hn, if_neg h6, h4, if_neg hq, if_pos hr]
              rw [e]
              exact pay_6short l a b w hl h3 h2 ha hb (by omega) c d x y h4 (by omega) hr
            · have e : payS l = (numL [c, d, x, y], 0) := by unfold payS; rw [if_neg hn, if_neg h6, h4, if_neg hq, if_neg hr]
              rw [e]
              exact pay_6ok l a b w hl h3 h2 ha hb (by omega) c d x y h4 (by omega) (by omega)
  · match l, h3 with
    | [], _ => exact pay_0 w
    | [a], _ =>
      cases ha : (a == 181) with
      | false =>
        have e : payS [a] = (0, 5) := by unfold payS headBad; rw [if_pos (by simp [bne, ha])]
        rw [e]
        exact pay_1no a w ha
      | true =>
        have e : payS [a] = (0, 3) := by unfold payS headBad; rw [if_neg (by simp [bne, ha])]; rfl
        rw [e]
        exact pay_1ok a w ha
    | [a, b], _ =>
      cases ha : (a == 181) with
      | false =>
        have e : payS [a, b] = (0, 5) := by unfold payS headBad; rw [if_pos (by simp [bne, ha])]
        rw [e]
        exact pay_2no1 a b w ha
      | true =>
        cases hb : (b == 126) with
        | false =>
          have e : payS [a, b] = (0, 5) := by unfold payS headBad; rw [if_pos (by simp [bne, hb])]
          rw [e]
          exact pay_2no2 a b w ha hb
        | true =>
          have e : payS [a, b] = (0, 3) := by unfold payS headBad; rw [if_neg (by simp [bne, ha, hb])]; rfl
          rw [e]
          exact pay_2ok a b w ha hb
    | x :: y :: z :: t, h => exact absurd (by simp) h

/-- The payload, how long the frame is, the error. -/
def oneS (l : List UInt8) : List UInt8 × Nat × Nat :=
  if (payS l).2 ≠ 0 then ([], 0, (payS l).2) else
    if sumS ((l.take 6).drop 2 ++ (l.take (10 + (payS l).1)).drop 10) ≠ numL ((l.take 10).drop 6) then ([], 0, 6) else ((l.take (10 + (payS l).1)).drop 10, 10 + (payS l).1, 0)
end Go.Proofs.YtamiacmnobklaaaGreatDoor
