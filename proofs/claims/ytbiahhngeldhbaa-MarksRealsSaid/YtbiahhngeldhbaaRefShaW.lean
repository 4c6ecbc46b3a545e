/- The walk of the document's SHA-256. -/
import Derived.Test.YtbiahhngeldhbaaRefBlockW
import Derived.Test.YtbiahhngeldhbaaRowB
import Derived.Test.YtbiahhngeldhbaaStTextW
import Derived.Test.YtbiahhngeldhbaaSumMW
set_option linter.unusedVariables false
namespace Go.Proofs.Ytbiahhngeldhbaa
open Go.RowKit

/-! ### The padding, step by step -/
/-- A slice's length. -/
def lenOfV : Value → Nat
  | .slice _ n _ => n
  | _ => 0
theorem padZ_lt (n : Nat) : padZ n < 64 := Nat.mod_lt _ (by decide)
theorem padZ_at (n z : Nat) (h : z ≤ padZ n) : ((n + 1 + z) % 64 = 56) ↔ z = padZ n := by
  unfold padZ at *
  omega
/-- The text and z of the zeros behind its mark. -/
def padTo (l : List UInt8) (z : Nat) : List UInt8 := l ++ (128 :: List.replicate z 0)
theorem padTo_zero (l : List UInt8) : padTo l 0 = l ++ [128] := rfl
theorem padTo_next (l : List UInt8) (z : Nat) : padTo l (z + 1) = padTo l z ++ [0] := by
  unfold padTo
  rw [List.replicate_succ', List.append_assoc]
  rfl
theorem padTo_length (l : List UInt8) (z : Nat) : (padTo l z).length = l.length + 1 + z := by
  unfold padTo
  simp
  omega
/-- .. and k of the length's bytes. -/
def lenTo (l : List UInt8) (k : Nat) : List UInt8 := padTo l (padZ l.length) ++ (be8 (8 * l.length)).take k
theorem lenTo_zero (l : List UInt8) : lenTo l 0 = padTo l (padZ l.length) := by unfold lenTo; rw [List.take_zero, List.append_nil]
theorem be8_at (n k : Nat) (h : k < 8) : (be8 n)[k]? = some (beB n k) := by
  unfold be8
  simp [h]
theorem lenTo_next (l : List UInt8) (k : Nat) (h : k < 8) : lenTo l (k + 1) = lenTo l k ++ [beB (8 * l.length) k] := by
  unfold lenTo
  rw [List.take_add_one, be8_at _ _ h, List.append_assoc]
  rfl
theorem lenTo_length (l : List UInt8) (k : Nat) (h : k ≤ 8) : (lenTo l k).length = l.length + 1 + padZ l.length + k := by
  unfold lenTo
  rw [List.length_append, padTo_length, List.length_take, be8_length]
  omega
theorem lenTo_all (l : List UInt8) : lenTo l 8 = padS l := by
  unfold lenTo padTo padS
  rw [List.take_of_length_le (by rw [be8_length]; exact Nat.le_refl _), List.append_assoc]
  rfl
theorem ones_rem (m : Nat) : Int.tmod (m : Int) 64 = ((m % 64 : Nat) : Int) := rfl
theorem mod256 (m : Nat) : (((UInt8.ofNat (m % 256)).toNat : Nat) : Int) = (m : Int) % 256 := by
  simp only [UInt8.toNat_ofNat']
  omega

/-! ### Words to bytes -/
theorem bytesOfL_next (s : List Nat) (k : Nat) (h : k < s.length) : bytesOfL (s.take (k + 1)) = bytesOfL (s.take k) ++ wordBytes s[k] := by
  unfold bytesOfL
  rw [List.take_succ_eq_append_getElem h, List.flatMap_append]
  simp

section
variable {P : Program}
/-- Four bytes appended to bytes of the call's own. -/
theorem append_four {w : World} {ops : Array Oper} {rest : List Oper} {o : Oper} {a : Act} {Q : Exit → Act → World → Prop} (hgd : o.guard = none) (s x : Operand) (t e : TypeId)
    (ho : o.op = .call { callee := .builtin .append, args := #[s, x], argTypes := #[t, t] }) (ht : P.underlying t = some (.slice e))
    (hinfo : (P.info? e).map (fun i => (i.zero, i.size, i.bytes)) = some (some (.int .u8 0), 1, 1))
    (base : Nat) (v : Value) (l news : List UInt8) (b0 b1 b2 b3 : Int) (hc : cellsOf news = [.int .u8 b0, .int .u8 b1, .int .u8 b2, .int .u8 b3]) (hs : a.eval s = v) (hown : Own w base e v l) (hx : a.eval x = .slice (some ⟨w.heap.size, 0, none⟩) 4 4)
    (hlen : l.length < 70368744177664) (hbase : base ≤ w.heap.size)
    (h : ∀ v' w', Own w' base e v' (l ++ news) → Below base w w' → wpList P ops Q rest (a.put o.dst v') w') :
    wpList P ops Q (o :: rest) a (w.alloc (.cells #[.int .u8 b0, .int .u8 b1, .int .u8 b2, .int .u8 b3] e)) := by
  obtain ⟨i0, hi, hz0, hz1, hz2⟩ := info_parts hinfo
  have hnew : (w.alloc (.cells #[.int .u8 b0, .int .u8 b1, .int .u8 b2, .int .u8 b3] e)).heap[w.heap.size]? = some (.cells #[.int .u8 b0, .int .u8 b1, .int .u8 b2, .int .u8 b3] e) := heap_alloc_new _ _
  have hl4 : news.length = 4 := by have := congrArg List.length hc; rw [cellsOf_length] at this; exact this
  refine wpList_append_own _ hgd s x t ho base e i0 (.int .u8 0) 1 1 ht hi hz0 hz1 hz2 rfl (by decide) v l.length (cellsOf l) hs (World.ownsRow.alloc hown _) ⟨w.heap.size, 0, none⟩ 4 4 (cellsOf news) hx (by rw [cellsOf_length, hl4]) ?_ ?_ (by unfold maxLen; omega) (by omega) (by simp; omega) ?_
  · intro j u hj
    rw [hc] at hj
    have e1 : (⟨w.heap.size, 0, none⟩ : Addr).add j = ⟨w.heap.size, j, none⟩ := by unfold Addr.add; split <;> simp_all
    rw [e1, cell_of_row _ _ _ _ _ _ hnew]
    simpa using hj
  · intro u hu
    rw [hc] at hu
    simp only [List.mem_cons, List.not_mem_nil, or_false] at hu
    rcases hu with rfl | rfl | rfl | rfl <;> rfl
  · intro v' w' hown' hg _
    refine h v' w' ?_ (((Below.refl base w).alloc hbase _).grown hg (by simp; omega) (fun k hk => (hown.lt k hk).1))
    unfold Own
    rw [cellsOf_append, List.length_append, hl4]
    exact hown'
end
theorem CellsFrom.sub {α : Type} {enc : α → Value} {w : World} {p : Nat} {xs : List α} (h : CellsFrom enc w p 0 xs) (k n : Nat) : CellsFrom enc w p k ((xs.drop k).take n) := by
  intro i hi
  rw [List.length_take, List.length_drop] at hi
  have := h (k + i) (by omega)
  rw [Nat.zero_add] at this
  rw [this]
  simp
theorem i64_and255 (n : Nat) (h : n < 9223372036854775808) : bits .and .i64 (n : Int) 255 = ((n % 256 : Nat) : Int) := by
  have := i64_and_nat n 255 h (by decide)
  rw [show ((255 : Nat) : Int) = 255 from rfl] at this
  rw [this, show (255 : Nat) = 2 ^ 8 - 1 from rfl, and_low]

set_option maxRecDepth 100000 in
set_option maxHeartbeats 2000000 in
theorem refSum_any (l : List UInt8) (w : World) (hl : l.length ≤ 1000000) :
    Calls Try.prog 12 #[.string ⟨l.toArray⟩] w fun e w' => e = .returned (.string ⟨(shaS KL H0 l).toArray⟩) ∧ Below w.heap.size w w' := by
  have RK := fun w' => Lib.hid (rootsR_any 64 3 w' (.inr rfl) (Nat.le_refl _))
  have RH := fun w' => Lib.hid (rootsR_any 8 2 w' (.inl rfl) (by decide))
  go_enter Try.func12, Try.ntmps12
  go_wp2_with fail
  refine (RK _).out.mono ?_
  rintro e w1 ⟨kv, rfl, hkv, hb1⟩
  have hkv2 : OwnL encN w1 w.heap.size 3 kv KL := by rw [← KL_roots]; rw [List.take_of_length_le (by rw [PL_length]; exact Nat.le_refl _)] at hkv; exact hkv
  obtain ⟨pk, ck, rfl, hk1, hk2, hkc⟩ := OwnL.block hkv2 (by intro e; have := congrArg List.length e; rw [KL_length] at this; cases this)
  rw [KL_length]
  have B1 := Lib.hid hb1
  have HKC := Lib.hid hkc
  clear hkv hkv2 hb1 hkc RK
  go_wp2_with fail
  refine (RH _).out.mono ?_
  rintro e w2 ⟨hv, rfl, hhv, hb2⟩
  have hhv2 : OwnL encN w2 w1.heap.size 3 hv H0.toL := by rw [H0_toL, ← HL_roots]; exact hhv
  have B2 := Lib.hid (B1.out.trans (hb2.mono B1.out.size))
  have HKC2 := Lib.hid (HKC.out.new hk2 hb2)
  have hk3 : pk < w2.heap.size := Nat.lt_of_lt_of_le hk2 hb2.size
  have HH := Lib.hid (hhv2.mono B1.out.size)
  clear hhv hhv2 hb2 B1 HKC hk2 RH
  obtain ⟨bv, w3, hcv, hrow, hb3⟩ := RowB.of_conv (P := Try.prog) w2 l 9 49 5 Try.underlying9 Try.underlying49 Try.underlying5
  have HCV := Lib.hid hcv
  have B3 := Lib.hid hb3
  have HR := Lib.hid hrow
  have hs3 := hb3.size
  clear hcv hb3 hrow
  go_wp2
  rw [HCV.out]
  go_wp2_with (at_builtin; refine append_rowB rfl _ _ 49 5 (by rfl) Try.underlying49 info_u8 w2.heap.size _ _ _ 128 (by rfl) (by rfl) HR.out (by rfl) (by omega) hs3 ?_; intro v' w4 hrow4 hb4; have HR4 := Lib.hid hrow4; have B4 := Lib.hid ((B3.out).trans (hb4.mono (Nat.le_refl _))); clear hrow4 hb4)
  clear HCV B3 HR
  have hp64 := padZ_lt l.length
  go_wp2
  go_loopw [5] (fun v wr => ∃ z : Nat, z ≤ padZ l.length ∧ RowB wr w2.heap.size v (padTo l z) ∧ Below w2.heap.size w2 wr) (fun v _ => 2000000 - lenOfV v)
  case atStart => exact ⟨0, Nat.zero_le _, HR4.out, B4.out⟩
  case round =>
    obtain ⟨z, hz, hrow, hbe⟩ := hrel
    have hL := padTo_length l z
    have hat := padZ_at l.length z hz
    have HNX := Lib.hid (padTo_next l z)
    have HR := Lib.hid hrow
    have HBE := Lib.hid hbe
    obtain ⟨g, gc, rfl, hg1, hg2, _⟩ := hrow
    have hs5 := HBE.out.size
    obtain ⟨m, hm⟩ : ∃ m, m = (padTo l z).length := ⟨_, rfl⟩
    rw [← hm] at hL HR ⊢
    have T1 : Int.tmod (m : Int) 64 = ((m % 64 : Nat) : Int) := rfl
    rw [← hL] at hat
    obtain ⟨r, hr⟩ : ∃ r, r = m % 64 := ⟨_, rfl⟩
    rw [← hr] at T1 hat
    have Hm := Lib.hid hm
    have T2 : IntKind.i64.wrap (r : Int) = (r : Int) := i64_small r (by omega)
    have T3 : (m : Int) % 64 = (r : Int) := by omega
    have hmb : m < 2000000 := by omega
    have HL := Lib.hid hL
    clear hbe hm hg2 hg1 hL
    by_cases hne : r = 56
    · have q1 : ((r : Int) != 56) = false := by simp [hne]
      have HZ := Lib.hid (hat.1 hne)
      clear hat hne hr hz HNX HR4 B4
      rw [HZ.out] at HR
      rw [← lenTo_zero] at HR
      obtain ⟨L8, hL8⟩ : ∃ L8, L8 = 8 * l.length := ⟨_, rfl⟩
      have WL8 : IntKind.i64.wrap (8 * (l.length : Int)) = (L8 : Int) := by rw [IntWalk.i64_in _ (by omega)]; omega
      have HL8 := Lib.hid hL8
      have L8b : L8 ≤ 8000000 := by omega
      clear hL8
      go_wp2
      clear T1 T2 T3 q1
      go_loopw [5, 6] (fun v i wr => ∃ (k : Nat) (ii : Int), k ≤ 8 ∧ ii = 7 - (k : Int) ∧ i = .int .i64 ii ∧ RowB wr w2.heap.size v (lenTo l k) ∧ Below w2.heap.size w2 wr) (fun _ i _ => (intOf i + 1).toNat)
      case atStart => exact ⟨0, 7, Nat.zero_le _, rfl, rfl, HR.out, HBE.out⟩
      case round =>
        obtain ⟨k, ii, hk, hii, rfl, hrow, hbe⟩ := hrel
        have HR := Lib.hid hrow
        have HBE := Lib.hid hbe
        have hs6 := HBE.out.size
        clear hrow hbe
        by_cases hlt : k < 8
        · obtain ⟨e, he⟩ : ∃ e, e = 8 * (7 - k) := ⟨_, rfl⟩
          have NX := Lib.hid (lenTo_next l k hlt)
          have LN := Lib.hid (lenTo_length l k hk)
          have i0 : (0 : Int) ≤ ii := by omega
          have WE : IntKind.i64.wrap (8 * ii) = (e : Int) := by rw [IntWalk.i64_in _ (by omega)]; omega
          have heb : e < 64 := by omega
          obtain ⟨c, hc⟩ : ∃ c, c = beB L8 k := ⟨_, rfl⟩
          rw [← HL8.out, ← hc] at NX
          have hbyte : ((L8 / 2 ^ e : Nat) : Int) % 256 = (c.toNat : Int) := by
            rw [hc]
            unfold beB
            rw [mod256, he]
          have hdiv : (L8 : Int) / 2 ^ e = ((L8 / 2 ^ e : Nat) : Int) := by rw [Int.natCast_ediv, Int.natCast_pow]; rfl
          have hql : L8 / 2 ^ e ≤ L8 := Nat.div_le_self _ _
          have i1 : ii ≤ 7 := by omega
          have MX : ii - 1 = 7 - ((k + 1 : Nat) : Int) := by omega
          have HMX := Lib.hid MX
          generalize L8 / 2 ^ e = q at *
          clear he hc hii MX
          go_wp2_with (at_builtin; refine append_rowB rfl _ _ 49 5 (by rfl) Try.underlying49 info_u8 w2.heap.size _ _ _ c (by rfl) (by rfl) HR.out (by rfl) (by rw [LN.out]; omega) hs6 ?_; intro v'' w6 hrow6 hb6; have HR6 := Lib.hid hrow6; have B6 := Lib.hid (HBE.out.trans hb6); clear hrow6 hb6)
          go_wp2
          go_roundw
          case rel => exact ⟨k + 1, ii - 1, hlt, HMX.out, rfl, by rw [NX.out]; exact HR6.out, B6.out⟩
          case measure => simp [intOf]; omega
        · have e8 : k = 8 := by omega
          have hneg : ¬ (0 ≤ ii) := by omega
          rw [e8, lenTo_all] at HR
          clear hii e8 hlt hk WL8 HL8 L8b hmb HZ HL Hm
          obtain ⟨nb, hnb⟩ : ∃ nb, nb = (padS l).length / 64 := ⟨_, rfl⟩
          have hpl := padS_length l
          have hP : (padS l).length = 64 * nb := by split at hpl <;> omega
          have hnbb : nb ≤ 20000 := by split at hpl <;> omega
          have hSH : Hid (shaS KL H0 l = bytesOfL (absorb KL H0 (padS l) nb).toL) := Lib.hid (by rw [hnb]; rfl)
          obtain ⟨P, hPd⟩ : ∃ P, P = padS l := ⟨_, rfl⟩
          rw [← hPd] at HR hP hSH
          obtain ⟨bg, bc, hbv, hbg1, hbg2, hbc, hbcells, _⟩ := HR.out
          rw [hP] at hbv hbc
          subst hbv
          have HBC := Lib.hid hbcells
          have HBE2 := Lib.hid (B2.out.trans (HBE.out.mono B2.out.size))
          have HKC3 := Lib.hid (HKC2.out.new hk3 HBE.out)
          have hk5 : pk < wr.heap.size := Nat.lt_of_lt_of_le hk3 HBE.out.size
          have HH3 := Lib.hid (HH.out.kept (Kept.new HBE.out (fun _ => False)) (fun _ _ h => h))
          have hbw := HBE2.out.size
          have HP := Lib.hid hP
          clear hnb hpl hP hPd hbcells HR HBE HKC2 HH hk3
          go_wp2
          obtain ⟨w5, rfl⟩ : ∃ w5, w5 = wr := ⟨_, rfl⟩
          go_loopw [4, 7] (fun v i wr => ∃ (j : Nat), j ≤ nb ∧ i = .int .i64 ((64 * j : Nat) : Int) ∧ OwnL encN wr w.heap.size 3 v (absorb KL H0 P j).toL ∧ Below w5.heap.size w5 wr) (fun _ i _ => 64 * nb - (intOf i).toNat)
          case atStart => exact ⟨0, Nat.zero_le _, rfl, HH3.out, Below.refl _ _⟩
          case round =>
            obtain ⟨j, hj, rfl, hown, hbe⟩ := hrel
            have HBE := Lib.hid hbe
            have HO := Lib.hid hown
            clear hbe hown
            by_cases hlt : j < nb
            · obtain ⟨at', hat⟩ : ∃ a, a = 64 * j := ⟨_, rfl⟩
              rw [← hat]
              obtain ⟨nx, hnx⟩ : ∃ a, a = 64 * nb := ⟨_, rfl⟩
              rw [← hnx] at hbc ⊢
              have a0 : (0 : Int) ≤ (at' : Int) := by omega
              have a1 : (at' : Int) < (nx : Int) := by omega
              obtain ⟨ae, hae⟩ : ∃ a, a = at' + 64 := ⟨_, rfl⟩
              have WA : IntKind.i64.wrap ((at' : Int) + 64) = (ae : Int) := by rw [IntWalk.i64_in _ (by omega)]; omega
              have a2 : (ae : Int) ≤ (bc : Int) := by omega
              have a3 : (at' : Int) ≤ (ae : Int) := by omega
              have a4 : ae - at' = 64 := by omega
              have a5 : ¬ (bc = at') := by omega
              have AN : (ae : Int) = ((64 * (j + 1) : Nat) : Int) := by omega
              have HAN := Lib.hid AN
              have ML : nx - ae < nx - at' := by omega
              have HML := Lib.hid ML
              have HAT := Lib.hid hat
              obtain ⟨hg, hc', hhv, hhg1, hhg2, hhc⟩ := OwnL.block HO.out (by intro e; cases e)
              have hhv : u4 = .slice (some ⟨hg, 0, none⟩) 8 hc' := hhv
              subst hhv
              have RB := Lib.hid (refBlock_any (absorb KL H0 P j) KL ((P.drop at').take 64) hg hc' pk ck bg at' (bc - at') wr (absorb_ok H0_ok P j) KL_length KL_lt (by rw [List.length_take, List.length_drop, HP.out]; omega) hhc (HKC3.out.new hk5 HBE.out) ?_ hhg2 (Nat.lt_of_lt_of_le hk5 HBE.out.size) (Nat.lt_of_lt_of_le hbg2 HBE.out.size))
              case refine_1 => exact (HBC.out.new hbg2 HBE.out).sub at' 64
              have AB := Lib.hid (show absorb KL H0 P (j + 1) = blkS KL (absorb KL H0 P j) ((P.drop at').take 64) by rw [hat]; rfl)
              have hws : w.heap.size ≤ wr.heap.size := Nat.le_trans hbw HBE.out.size
              clear hat hnx hae AN ML hj hhc hhg1 hhg2 HO
              go_wp2_with fail
              refine RB.out.mono ?_
              rintro e w6 ⟨v6, rfl, ho6, hb6⟩
              have HO6 := Lib.hid (ho6.mono hws)
              have B6 := Lib.hid (HBE.out.trans (hb6.mono HBE.out.size))
              clear ho6 hb6 RB
              go_wp2
              go_roundw
              case rel => exact ⟨j + 1, hlt, by rw [HAN.out], by rw [AB.out]; exact HO6.out, B6.out⟩
              case measure => simp [intOf]; exact HML.out
            · have e1 : j = nb := by omega
              rw [e1] at HO
              have nlt : ¬ (((64 * j : Nat) : Int) < ((64 * nb : Nat) : Int)) := by omega
              obtain ⟨nx, hnx⟩ : ∃ a, a = 64 * nb := ⟨_, rfl⟩
              obtain ⟨at', hat⟩ : ∃ a, a = 64 * j := ⟨_, rfl⟩
              rw [← hnx] at nlt hbc ⊢
              rw [← hat] at nlt ⊢
              obtain ⟨hg, hc', hhv, hhg1, hhg2, hhc⟩ := OwnL.block HO.out (by intro e; cases e)
              have hhv : u4 = .slice (some ⟨hg, 0, none⟩) 8 hc' := hhv
              subst hhv
              have hok := absorb_ok H0_ok (K := KL) P nb
              obtain ⟨S, hS⟩ : ∃ S, S = absorb KL H0 P nb := ⟨_, rfl⟩
              rw [← hS] at hok hhc hSH
              have HOK := Lib.hid hok
              have HC := Lib.hid hhc
              have B7 := Lib.hid (HBE2.out.trans (HBE.out.mono hbw))
              have hs7 := B7.out.size
              clear hnx hat hS e1 hj hlt hok hhc HO HBE HBE2 hbw HKC3 HH3 HBC HP hk5 hbg1 hbg2 hhg1
              go_wp2
              obtain ⟨w7, rfl⟩ : ∃ w7, w7 = wr := ⟨_, rfl⟩
              go_loopw [8, 9] (fun v i wr => ∃ (k : Nat), k ≤ 8 ∧ i = .int .i64 k ∧ Own wr w7.heap.size 5 v (bytesOfL (S.toL.take k)) ∧ Below w7.heap.size w7 wr) (fun _ i _ => 8 - (intOf i).toNat)
              case atStart => exact ⟨0, Nat.zero_le _, rfl, Own.nil _ _ _, Below.refl _ _⟩
              case round =>
                obtain ⟨k, hk, rfl, hown, hbe⟩ := hrel
                have HBE := Lib.hid hbe
                have HO := Lib.hid hown
                clear hbe hown
                by_cases hlt : k < 8
                · have qx := (HC.out.new hhg2 HBE.out) k hlt
                  rw [Nat.zero_add] at qx
                  have BN := Lib.hid (bytesOfL_next S.toL k hlt)
                  have xl := toL_lt HOK.out _ (List.getElem_mem (show k < S.toL.length from hlt))
                  have BL : Hid ((bytesOfL (S.toL.take k)).length = 4 * k) := Lib.hid (by rw [bytesOfL_length, List.length_take]; show 4 * min k 8 = _; omega)
                  generalize S.toL[k]'hlt = x at *
                  unfold encN at qx
                  obtain ⟨x1, hx1⟩ : ∃ y, y = x / 16777216 := ⟨_, rfl⟩
                  obtain ⟨x2, hx2⟩ : ∃ y, y = x / 65536 := ⟨_, rfl⟩
                  obtain ⟨x3, hx3⟩ : ∃ y, y = x / 256 := ⟨_, rfl⟩
                  have D1 : (x : Int) / 16777216 = (x1 : Int) := by omega
                  have D2 : (x : Int) / 65536 = (x2 : Int) := by omega
                  have D3 : (x : Int) / 256 = (x3 : Int) := by omega
                  have N2 := i64_and255 x2 (by omega)
                  have N3 := i64_and255 x3 (by omega)
                  have N4 := i64_and255 x (by omega)
                  obtain ⟨y2, hy2⟩ : ∃ y, y = x2 % 256 := ⟨_, rfl⟩
                  obtain ⟨y3, hy3⟩ : ∃ y, y = x3 % 256 := ⟨_, rfl⟩
                  obtain ⟨y4, hy4⟩ : ∃ y, y = x % 256 := ⟨_, rfl⟩
                  rw [← hy2] at N2
                  rw [← hy3] at N3
                  rw [← hy4] at N4
                  have V1 : IntKind.u8.wrap (x1 : Int) = (x1 : Int) := by rw [IntKind.wrap_u8]; omega
                  have V2 : IntKind.u8.wrap (y2 : Int) = (y2 : Int) := by rw [IntKind.wrap_u8]; omega
                  have V3 : IntKind.u8.wrap (y3 : Int) = (y3 : Int) := by rw [IntKind.wrap_u8]; omega
                  have V4 : IntKind.u8.wrap (y4 : Int) = (y4 : Int) := by rw [IntKind.wrap_u8]; omega
                  have W1 : (x1 : Int) % 256 = (x1 : Int) := by omega
                  have W2 : (y2 : Int) % 256 = (y2 : Int) := by omega
                  have W3 : (y3 : Int) % 256 = (y3 : Int) := by omega
                  have W4 : (y4 : Int) % 256 = (y4 : Int) := by omega
                  have CB : Hid (cellsOf (wordBytes x) = [.int .u8 (x1 : Int), .int .u8 (y2 : Int), .int .u8 (y3 : Int), .int .u8 (y4 : Int)]) := Lib.hid (by
                    unfold cellsOf wordBytes
                    simp only [List.map_cons, List.map_nil, mod256]
                    rw [hy2, hx2, hy3, hx3, hy4]
                    simp only [List.cons.injEq, Value.int.injEq, true_and, and_true]
                    omega)
                  have kq : (k : Int) < 8 := by omega
                  have k0 : (0 : Int) ≤ (k : Int) := by omega
                  clear hx1 hx2 hx3 hy2 hy3 hy4
                  go_wp2
                  refine wp_region_quiet_tail 26 (by kernel_rfl) (by kernel_rfl) (fun _ _ _ h => h) (Or.inl ⟨by rfl, fun _ => rfl⟩) ?_ (v := u8)
                  simp only [List.take_succ_cons, List.take_zero, List.drop_succ_cons, List.drop_zero]
                  go_frame
                  repeat (go_big_quiet_step (fail))
                  refine wpQuiet_nil ?_
                  rintro _ ⟨nr, rfl⟩
                  have H5 := Lib.hid (show Own (wr.drewN nr) w7.heap.size 5 u8 (bytesOfL (S.toL.take k)) from HO.out)
                  have B5 := Lib.hid (Below_drewN HBE.out nr)
                  have hb0 := B5.out.size
                  clear HBE HO qx D1 D2 D3 N2 N3 N4 V1 V2 V3 V4 W1 W2 W3 W4
                  generalize wr.drewN nr = w8 at *
                  go_wp2_with (at_builtin; refine append_four rfl _ _ 49 5 (by rfl) Try.underlying49 info_u8 w7.heap.size _ _ (wordBytes x) _ _ _ _ CB.out (by rfl) H5.out (by rfl) (by rw [BL.out]; omega) hb0 ?_; intro v'' w9 hown9 hb9; have H9 := Lib.hid hown9; have B9 := Lib.hid (B5.out.trans hb9); clear hown9 hb9)
                  go_wp2
                  go_roundw
                  case rel => exact ⟨k + 1, hlt, by go_num, by rw [BN.out]; exact H9.out, B9.out⟩
                  case measure => simp [intOf]; omega
                · have e8 : k = 8 := by omega
                  have nk : ¬ ((k : Int) < 8) := by omega
                  rw [e8, List.take_of_length_le (show S.toL.length ≤ 8 from Nat.le_refl 8)] at HO
                  have hcs := own_string (P := Try.prog) wr w7.heap.size 49 9 5 _ _ Try.underlying49 Try.underlying5 Try.underlying9 HO.out
                  have HCS := Lib.hid hcs
                  have BF := Lib.hid (B7.out.trans (HBE.out.mono hs7))
                  clear hcs e8 HBE HO
                  go_wp2
                  rw [HCS.out]
                  go_wp2
                  go_ret
                  exact ⟨by rw [hSH.out]; rfl, BF.out⟩
    · have q1 : ((r : Int) != 56) = true := by simp; omega
      have hz2 : z < padZ l.length := by
        rcases Nat.lt_or_ge z (padZ l.length) with h | h
        · exact h
        · exact absurd (hat.2 (by omega)) hne
      clear hat hr hne
      go_wp2_with (at_builtin; refine append_rowB rfl _ _ 49 5 (by rfl) Try.underlying49 info_u8 w2.heap.size _ _ _ 0 (by rfl) (by rfl) HR.out (by rfl) (by rw [← Hm.out]; omega) hs5 ?_; intro v' w6 hrow6 hb6; have HR6 := Lib.hid hrow6; have B6 := Lib.hid (HBE.out.trans hb6); clear hrow6 hb6)
      go_wp2
      go_roundw
      case rel => exact ⟨z + 1, hz2, by rw [HNX.out]; exact HR6.out, B6.out⟩
      case measure =>
        obtain ⟨g6, c6, rfl, _⟩ := HR6.out
        simp only [lenOfV]
        rw [List.length_append, ← Hm.out]
        simp
        omega
end Go.Proofs.Ytbiahhngeldhbaa
