/- Landed tree: alike, num, Bytes, walked. -/
import Derived.Test.YtamiacmnobklaaaGreatDoorArX
import Derived.Test.YtamiacmnobklaaaGreatDoorQtX
import Derived.Test.YtamiacmnobklaaaGreatDoorBldShelf
import Derived.Test.YtamiacmnobklaaaGreatDoorBdX
import Derived.Test.YtamiacmnobklaaaGreatDoorCdX
import Derived.Test.YtamiacmnobklaaaGreatDoorCodeNumW
import Derived.Test.YtamiacmnobklaaaGreatDoorFtX
import Derived.Test.YtamiacmnobklaaaGreatDoorFrame
import Derived.Test.YtamiacmnobklaaaGreatDoorGen
import Derived.Test.YtamiacmnobklaaaGreatDoorMarkMath
import Derived.Test.YtamiacmnobklaaaGreatDoorOwnL
import Derived.Test.YtamiacmnobklaaaGreatDoorProg
import Derived.Test.YtamiacmnobklaaaGreatDoorQuietBelow
import Derived.Test.YtamiacmnobklaaaGreatDoorRfX
import Derived.Test.YtamiacmnobklaaaGreatDoorRefMbW
import Derived.Test.YtamiacmnobklaaaGreatDoorRowN
import Derived.Test.YtamiacmnobklaaaGreatDoorRows
import Derived.Test.YtamiacmnobklaaaGreatDoorShelf
import Derived.Test.YtamiacmnobklaaaGreatDoorAwX
import Derived.Test.YtamiacmnobklaaaGreatDoorTreeMath
import Derived.Test.YtamiacmnobklaaaGreatDoorTcX
import Derived.BigQuiet
import Derived.BigRegion
import Derived.Deep.Cut
import Derived.Deep.CutRange
import Derived.Deep.DeepCutAuto
import Derived.Deep.QuietTactic
import Derived.Deep.RegionHeld
import Derived.Laws.IdiomStrings
import Derived.Laws.OwnMore
import Derived.Laws.RangeAny
import Derived.Lib.Hide
import Derived.LoopIn
import Derived.LoopNIn
import Derived.LoopTactic
import Derived.OwnWalkIn
import Derived.RangeFuncBound
import Derived.RangeFuncCalls
import Derived.RangeFuncLeaves
import Derived.RangeFuncNested
import Derived.Shelf.Abstract
import Derived.Shelf.RegionOpen
import Derived.Shelf.Strings.SplitCore
import Derived.StillTail
import Derived.TacticsInMore
import Derived.WalkKit
import Derived.WalkLawsBesides
import Derived.WalkSpells
set_option linter.unusedVariables false
namespace Go.Proofs.YtamiacmnobklaaaGreatDoor
open Go.RowKit

theorem shAt (a b : Txt) (k : Nat) (ha : k < a.length) (hb : k < b.length) : sharedS (a.drop k) (b.drop k) = if a[k] = b[k] then sharedS (a.drop (k + 1)) (b.drop (k + 1)) + 1 else 0 := by
  rw [List.drop_eq_getElem_cons ha, List.drop_eq_getElem_cons hb]; rfl
theorem shEnd (a b : Txt) (k : Nat) (h : a.length ≤ k ∨ b.length ≤ k) : sharedS (a.drop k) (b.drop k) = 0 := by
  rcases h with h | h
  · rw [List.drop_eq_nil_of_le h]; rfl
  · rw [List.drop_eq_nil_of_le h]; cases a.drop k <;> rfl
set_option maxRecDepth 100000 in
set_option maxHeartbeats 1000000 in
theorem alike_any (a b : Txt) (w : World) (ha : a.length ≤ 140737488351232) (hb : b.length ≤ 140737488351232) :
    Calls Tryz.prog 67 #[.string ⟨a.toArray⟩, .string ⟨b.toArray⟩] w fun e w' => e = .returned (.int .i64 (sharedS a b)) ∧ Below w.heap.size w w' := by
  have SA := Lib.hid (show (⟨a.toArray⟩ : ByteArray).size = a.length from rfl)
  have SB := Lib.hid (show (⟨b.toArray⟩ : ByteArray).size = b.length from rfl)
  obtain ⟨m, hm⟩ : ∃ m, m = min a.length b.length := ⟨_, rfl⟩
  have E1 : min (a.length : Int) (b.length : Int) = (m : Int) := by omega
  have hma : m ≤ a.length := by omega
  have hmb : m ≤ b.length := by omega
  have HM := Lib.hid (show m = a.length ∨ m = b.length by omega)
  clear hm
  have H0 := Lib.hid (show 0 + sharedS (a.drop 0) (b.drop 0) = sharedS a b by simp)
  generalize sharedS a b = res at *
  go_enter Tryz.func67, Tryz.ntmps67
  go_wp2_with fail
  go_loopw [5] (fun v5 wr => ∃ k : Nat, k ≤ m ∧ v5 = .int .i64 k ∧ Hid (k + sharedS (a.drop k) (b.drop k) = res) ∧ Below w.heap.size w wr) (fun v5 _ => m - (intOf v5).toNat)
  case atStart => exact ⟨0, by omega, rfl, H0, Below.refl _ _⟩
  case round =>
    clear H0
    obtain ⟨k, hk, rfl, HA, hbel⟩ := hrel
    have HB := Lib.hid hbel
    clear hbel
    have k0 : (0 : Int) ≤ (k : Int) := by omega
    by_cases hlt : k < m
    · have j1 : (k : Int) < (m : Int) := by omega
      have d1 : decide ((k : Int) < (m : Int)) = true := decide_eq_true j1
      have d2 : decide (k < m) = true := decide_eq_true hlt
      have ja : k < a.length := by omega
      have jb : k < b.length := by omega
      have ka : (k : Int) < (a.length : Int) := by omega
      have kb' : (k : Int) < (b.length : Int) := by omega
      have e1 : (⟨a.toArray⟩ : ByteArray)[k]'ja = a[k] := rfl
      have e2 : (⟨b.toArray⟩ : ByteArray)[k]'jb = b[k] := rfl
      have HS := Lib.hid (shAt a b k ja jb)
      by_cases hne : a[k] = b[k]
      · have q : ((((⟨a.toArray⟩ : ByteArray)[k]'ja).toNat : Int) == (((⟨b.toArray⟩ : ByteArray)[k]'jb).toNat : Int)) = true := by rw [e1, e2, hne]; simp
        have HN := Lib.hid (show (k + 1) + sharedS (a.drop (k + 1)) (b.drop (k + 1)) = res by rw [← HA.out, HS.out, if_pos hne]; omega)
        clear hne e1 e2 HA HS
        go_wp2_with fail
        go_quiet (fail)
        have HB8 := Lib.hid (Below_drewN HB.out nq)
        generalize wr.drewN nq = w8 at *
        go_wp2_with fail
        go_roundw
        case rel => exact ⟨k + 1, hlt, by go_num, HN, HB8.out⟩
        case measure => simp [intOf]; omega
      · have q : ((((⟨a.toArray⟩ : ByteArray)[k]'ja).toNat : Int) == (((⟨b.toArray⟩ : ByteArray)[k]'jb).toNat : Int)) = false := by
          rw [e1, e2, beq_eq_false_iff_ne]
          intro h
          exact hne (UInt8.toNat_inj.1 (by omega))
        have HN := Lib.hid (show (k : Int) = (res : Int) by rw [← HA.out, HS.out, if_neg hne]; omega)
        clear hne e1 e2 HA HS
        go_wp2_with fail
        go_quiet (fail)
        have HB8 := Lib.hid (Below_drewN HB.out nq)
        generalize wr.drewN nq = w8 at *
        go_wp2_with fail
        go_ret
        exact ⟨by rw [← HN.out]; rfl, HB8.out⟩
    · have j1 : ¬ (k : Int) < (m : Int) := by omega
      have d1 : decide ((k : Int) < (m : Int)) = false := decide_eq_false j1
      have d2 : decide (k < m) = false := decide_eq_false hlt
      have HN := Lib.hid (show (k : Int) = (res : Int) by rw [← HA.out, shEnd a b k (by have := HM.out; omega)]; omega)
      clear HA
      go_wp2_with fail
      go_quiet (fail)
      have HB8 := Lib.hid (Below_drewN HB.out nq)
      generalize wr.drewN nq = w8 at *
      go_wp2_with fail
      go_ret
      exact ⟨by rw [← HN.out]; rfl, HB8.out⟩
set_option maxRecDepth 100000 in
theorem tnum_any (n : Nat) (w : World) (hn : n ≤ 4611686018427387903) :
    Calls Tryz.prog 66 #[.int .i64 n] w fun e w' => e = .returned (.string ⟨(nb n).toArray⟩) ∧ Below w.heap.size w w' := by
  have N := Lib.hid (num_ok n w hn)
  generalize nb n = b at *
  go_enter Tryz.func66, Tryz.ntmps66
  go_wp2_with fail
  refine N.out.mono ?_
  rintro e w1 ⟨rfl, hb⟩
  go_wp2_with fail
  go_ret
  exact ⟨rfl, hb⟩
theorem tbld_new (w : World) : Bld (w.alloc (.cells #[.pointer none, .slice none 0 0] 107)) w.heap.size w.heap.size [] :=
  .inl ⟨Nat.le_refl _, .slice none 0 0, by show (w.heap.push _)[w.heap.size]? = _; simp, World.ownsRow_nil _ _ _ _, by simp [Value.ownBlock]⟩
theorem tbldAt_kept {w w' : World} {B b : Nat} {p : Value} {l : List Value} (h : Lib.BuilderAt 107 5 B b p l w) (hb : Below w.heap.size w w') : Lib.BuilderAt 107 5 B b p l w' := by
  have hlt := h.lt
  obtain ⟨hB, v, hbk, hown, hne⟩ := h
  refine ⟨hB, v, (hb.block b hlt).trans hbk, ?_, hne⟩
  refine ⟨hown.1, ?_⟩
  rcases hown.2 with hn | ⟨g, cap, cur, rfl, hg, hgg, rest⟩
  · exact .inl hn
  · exact .inr ⟨g, cap, cur, rfl, hg, (hb.block g (Array.getElem?_eq_some_iff.1 hgg).1).trans hgg, rest⟩
theorem tbld_kept {w w' : World} {B b : Nat} {l : List UInt8} (h : Bld w B b l) (hb : Below w.heap.size w w') : Bld w' B b l :=
  h.elim (fun h => .inl (tbldAt_kept h hb)) (fun h => .inr (tbldAt_kept h hb))
theorem tbld_lt {w : World} {B b : Nat} {l : List UInt8} (h : Bld w B b l) : b < w.heap.size := h.elim (fun h => h.lt) (fun h => h.lt)
set_option maxRecDepth 100000 in
set_option maxHeartbeats 2000000 in
theorem tBytes_any (v : Value) (l : List ItemD) (w : World) (hrow : RowN encI 4 (fun _ => True) w v l) (hok : ∀ x ∈ l, ItemOk x) (hl : l.length ≤ 10000) :
    Calls Tryz.prog 40 #[v] w fun e w' => e = .returned (.tuple #[.string ⟨(mbytesS l).1.toArray⟩, .int .i64 (mbytesS l).2]) ∧ Below w.heap.size w w' := by
  have RT := Lib.hid (tRight_any v l w hrow hok hl)
  obtain ⟨va, vc, hv, _⟩ := hrow.slice
  subst hv
  have HRO := Lib.hid hrow
  clear hrow
  by_cases hr : rightS l = 0
  · have HM := Lib.hid (show mbytesS l = (nb l.length ++ mbE [] l, 0) from if_neg (fun h => h hr))
    obtain ⟨hl2, heach⟩ := rightS_each hr
    have HE := Lib.hid heach
    rw [hr] at RT
    generalize mbytesS l = mres at *
    clear hr heach
    have N0 := fun w' => Lib.hid (tnum_any l.length w' (by omega))
    have hnb := (nb_length l.length).2
    have HNB := Lib.hid (show nb l.length ++ mbE [] (l.drop 0) = nb l.length ++ mbE [] l from rfl)
    obtain ⟨fin, hfin⟩ : ∃ fin, fin = nb l.length ++ mbE [] l := ⟨_, rfl⟩
    rw [← hfin] at HNB HM
    clear hfin
    obtain ⟨nb0, hnb0⟩ : ∃ nb0, nb0 = nb l.length := ⟨_, rfl⟩
    rw [← hnb0] at N0 hnb HNB
    clear hnb0
    go_enter Tryz.func40, Tryz.ntmps40
    go_wp2_with fail
    refine RT.out.mono ?_
    rintro e w1 ⟨rfl, hb1⟩
    have HB1 := Lib.hid hb1
    clear hb1 RT
    have HBN := Lib.hid (tbld_new w1)
    have HB2 := Lib.hid (HB1.out.trans (((Below.refl w1.heap.size w1).alloc (Nat.le_refl _) (.cells #[.pointer none, .slice none 0 0] 107)).mono HB1.out.size))
    have hsz : w1.heap.size ≤ (w1.alloc (.cells #[.pointer none, .slice none 0 0] 107)).heap.size := by simp
    have hB0 := HB1.out.size
    go_wp2_with fail
    generalize w1.alloc (.cells #[.pointer none, .slice none 0 0] 107) = w2 at *
    obtain ⟨B, hB⟩ : ∃ B, B = w1.heap.size := ⟨_, rfl⟩
    rw [← hB] at HBN hsz hB0 ⊢
    clear hB HB1 w1
    refine (N0 _).out.mono ?_
    rintro e w3 ⟨rfl, hb3⟩
    have HBL3 := Lib.hid (tbld_kept HBN.out hb3)
    have HB3 := Lib.hid (HB2.out.trans (hb3.mono HB2.out.size))
    have WS := Lib.hid (writeStringK_any B B [] nb0 w3 HBL3.out (by simp; omega) (by have := hb3.size; omega))
    clear hb3 N0 HBN HB2 hsz w2
    go_wp2_with fail
    refine WS.out.mono ?_
    rintro e w4 ⟨rfl, hbl4, hb4, _⟩
    have HBL4 := Lib.hid hbl4
    have HB4 := Lib.hid (HB3.out.trans (hb4.mono hB0))
    clear hbl4 hb4 WS HBL3 HB3
    go_wp2_with fail
    go_loopw [6, 23] (fun v6 v23 wr => ∃ (i : Nat) (out last : Txt), i ≤ l.length ∧ v23 = .int .i64 i ∧ v6 = .string ⟨last.toArray⟩ ∧ Bld wr B B out ∧ Hid (out ++ mbE last (l.drop i) = fin) ∧ last.length ≤ 200 ∧ out.length ≤ 10 + i * 300 ∧ Below w.heap.size w wr) (fun _ v23 _ => l.length - (intOf v23).toNat)
    case atStart => exact ⟨0, nb0, [], by omega, rfl, rfl, HBL4.out, HNB, by simp, by omega, HB4.out⟩
    case round =>
      clear HBL4 HB4 HNB hnb
      obtain ⟨i, out, last, hi, rfl, rfl, hbl, HA, hll, hol, hbel⟩ := hrel
      have HB := Lib.hid hbel
      have HBL := Lib.hid hbl
      clear hbel hbl
      have i0 : (0 : Int) ≤ (i : Int) := by omega
      have hi256 : i ≤ 256 := by omega
      by_cases hlt : i < l.length
      · have j1 : (i : Int) < (l.length : Int) := by omega
        obtain ⟨g, o, rfl, hel⟩ := HRO.out.el hlt
        have hel1 := (hel i hlt).new HB.out
        have c0 := hel1.i0
        have c1 := hel1.i1
        have c2 := hel1.i2
        have c3 := hel1.i3
        have hx := HE.out l[i] (List.getElem_mem hlt)
        have HD := Lib.hid (show l.drop i = l[i] :: l.drop (i + 1) from List.drop_eq_getElem_cons hlt)
        clear hel hel1
        generalize l[i] = x at *
        obtain ⟨p, md, sz, mk⟩ := x
        obtain ⟨hp, hm0, hm1, hs0, hs1, hk⟩ := hx
        dsimp only at hp hm0 hm1 hs0 hs1 hk c0 c1 c2 c3
        have hsh := sharedS_le last p
        have SH := fun w' => Lib.hid (alike_any last p w' (by omega) (by omega))
        have HN := Lib.hid (show out ++ (nb (sharedS last p) ++ tb (p.drop (sharedS last p)) ++ nb md.toNat ++ nb sz.toNat ++ mk) ++ mbE p (l.drop (i + 1)) = fin by
          rw [← HA.out, HD.out]
          show _ = out ++ (nb (sharedS last p) ++ tb (p.drop (sharedS last p)) ++ nb md.toNat ++ nb sz.toNat ++ mk ++ mbE p (l.drop (i + 1)))
          simp only [List.append_assoc])
        generalize sharedS last p = n at *
        obtain ⟨hn1, hn2⟩ := hsh
        obtain ⟨mdn, hmd⟩ : ∃ mdn : Nat, md = (mdn : Int) := ⟨md.toNat, by omega⟩
        obtain ⟨szn, hsz⟩ : ∃ szn : Nat, sz = (szn : Int) := ⟨sz.toNat, by omega⟩
        subst hmd
        subst hsz
        rw [Int.toNat_natCast, Int.toNat_natCast] at HN
        have EX := Lib.hid (show (⟨p.toArray⟩ : ByteArray).extract n p.length = ⟨(p.drop n).toArray⟩ from drop_toArray p n p.length (Nat.le_refl _))
        have SP := Lib.hid (show (⟨p.toArray⟩ : ByteArray).size = p.length from rfl)
        have htl : (p.drop n).length ≤ 200 := by rw [List.length_drop]; omega
        have TX := fun w' => Lib.hid (text_ok (p.drop n) w' (by omega))
        have htb : (tb (p.drop n)).length ≤ 210 := by unfold tb; rw [List.length_append]; have := (nb_length (p.drop n).length).2; omega
        generalize p.drop n = rs at *
        have B1 := fun w' => Lib.hid (tnum_any n w' (by omega))
        have B2 := fun w' => Lib.hid (tnum_any mdn w' (by omega))
        have B3 := fun w' => Lib.hid (tnum_any szn w' (by omega))
        have l1 := (nb_length n).2
        have l2 := (nb_length mdn).2
        have l3 := (nb_length szn).2
        generalize nb n = e1 at *
        generalize nb mdn = e2 at *
        generalize nb szn = e3 at *
        generalize tb rs = tbs at *
        have k1 : ¬ 9223372036854775807 < e1.length + tbs.length := by omega
        have k2 : ¬ 9223372036854775807 < e1.length + tbs.length + e2.length := by omega
        have k3 : ¬ 9223372036854775807 < e1.length + tbs.length + e2.length + e3.length := by omega
        have k4 : ¬ 9223372036854775807 < e1.length + tbs.length + e2.length + e3.length + mk.length := by omega
        have n1 : (0 : Int) ≤ (n : Int) := by omega
        have n2 : (n : Int) ≤ (p.length : Int) := by omega
        clear HA HD
        have hnew := heap_alloc_new wr (.cells #[.string ⟨p.toArray⟩, .int .i64 mdn, .int .i64 szn, .string ⟨mk.toArray⟩] 78)
        have hbw : Below wr.heap.size wr (wr.alloc (.cells #[.string ⟨p.toArray⟩, .int .i64 mdn, .int .i64 szn, .string ⟨mk.toArray⟩] 78)) := (Below.refl _ wr).alloc (Nat.le_refl _) _
        have HX5 := Lib.hid (show wr.heap.size ≠ B from fun e => by have := tbld_lt HBL.out; omega)
        have HSZ5 := Lib.hid (show wr.heap.size < (wr.alloc (.cells #[.string ⟨p.toArray⟩, .int .i64 mdn, .int .i64 szn, .string ⟨mk.toArray⟩] 78)).heap.size by simp)
        have HBL5 := Lib.hid (tbld_kept HBL.out hbw)
        have HB5 := Lib.hid (HB.out.trans (hbw.mono HB.out.size))
        have HNW5 := Lib.hid hnew
        clear hbw hnew HBL HB
        go_wp2_with fail
        generalize wr.alloc (.cells #[.string ⟨p.toArray⟩, .int .i64 mdn, .int .i64 szn, .string ⟨mk.toArray⟩] 78) = w5 at *
        clear c0 c1 c2 c3
        generalize wr.heap.size = bx at *
        refine (SH _).out.mono ?_
        rintro e w6 ⟨rfl, hb6⟩
        have HBL6 := Lib.hid (tbld_kept HBL5.out hb6)
        have HB6 := Lib.hid (HB5.out.trans (hb6.mono HB5.out.size))
        have HNW6 := Lib.hid ((hb6.block bx HSZ5.out).trans HNW5.out)
        have HSZ6 := Lib.hid (Nat.lt_of_lt_of_le HSZ5.out hb6.size)
        clear hb6 HBL5 HB5 HNW5 HSZ5 SH
        have d0 : w6.cell? ⟨bx, 0, none⟩ = some (.string ⟨p.toArray⟩) := by rw [cell_of_row _ _ _ _ _ _ HNW6.out]; rfl
        go_wp2_with fail
        rw [EX.out]
        refine (TX _).out.mono ?_
        rintro e w7 ⟨rfl, hb7⟩
        have HBL7 := Lib.hid (tbld_kept HBL6.out hb7)
        have HB7 := Lib.hid (HB6.out.trans (hb7.mono HB6.out.size))
        have HNW7 := Lib.hid ((hb7.block bx HSZ6.out).trans HNW6.out)
        have HSZ7 := Lib.hid (Nat.lt_of_lt_of_le HSZ6.out hb7.size)
        clear hb7 HBL6 HB6 HNW6 HSZ6 TX d0
        have d1 : w7.cell? ⟨bx, 1, none⟩ = some (.int .i64 mdn) := by rw [cell_of_row _ _ _ _ _ _ HNW7.out]; rfl
        have d2 : w7.cell? ⟨bx, 2, none⟩ = some (.int .i64 szn) := by rw [cell_of_row _ _ _ _ _ _ HNW7.out]; rfl
        have d3 : w7.cell? ⟨bx, 3, none⟩ = some (.string ⟨mk.toArray⟩) := by rw [cell_of_row _ _ _ _ _ _ HNW7.out]; rfl
        go_wp2_with fail
        refine wp_region_below_tail 14 (by kernel_rfl) (by kernel_rfl) (fun _ _ _ h => h) (Or.inl ⟨by rfl, fun _ => rfl⟩) ?_ (v := .int .i64 n)
        have A1 := below_cell d1
        have A2 := below_cell d2
        have A3 := below_cell d3
        simp only [List.take_succ_cons, List.take_zero, List.drop_succ_cons, List.drop_zero]
        go_frame
        repeat (go_big_quiet_step (first | (go_at_call 66; with_reducible exact below_calls (B1 _).out) | (go_at_call 66; with_reducible exact below_calls (B2 _).out) | (go_at_call 66; with_reducible exact below_calls (B3 _).out)))
        refine wpQuiet_nil ?_
        rintro w8 ⟨⟨w8b, hb8⟩, e8⟩
        have e8' : w8 = w8b := e8
        clear e8
        subst e8'
        have HBL8 := Lib.hid (tbld_kept HBL7.out hb8)
        have HB8 := Lib.hid (HB7.out.trans (hb8.mono HB7.out.size))
        have HNW8 := Lib.hid ((hb8.block bx HSZ7.out).trans HNW7.out)
        clear hb8 HBL7 HB7 HNW7 HSZ7 A1 A2 A3 d1 d2 d3
        have WS := Lib.hid (writeStringK_any B B out (e1 ++ tbs ++ e2 ++ e3 ++ mk) w8 HBL8.out (by simp only [List.length_append]; omega) (Nat.le_of_lt (tbld_lt HBL8.out)))
        go_wp2_with fail
        rw [cat2, cat2, cat2, cat2]
        refine WS.out.mono ?_
        rintro e w9 ⟨rfl, hbl9, hb9, hk9⟩
        have HBL9 := Lib.hid hbl9
        have HB9 := Lib.hid (HB8.out.trans (hb9.mono hB0))
        have d0 : w9.cell? ⟨bx, 0, none⟩ = some (.string ⟨p.toArray⟩) := by
          rw [cell_of_row _ _ _ _ _ _ (hk9 bx _ HNW8.out HX5.out (fun cs fr h => by injection h with _ h _; exact absurd h (by decide)))]; rfl
        clear hbl9 hb9 hk9 WS HBL8 HB8 HNW8 k1 k2 k3 k4
        go_wp2_with fail
        go_roundw
        case rel => exact ⟨i + 1, out ++ (e1 ++ tbs ++ e2 ++ e3 ++ mk), p, hlt, by go_num, rfl, HBL9.out, HN, hp, by simp only [List.length_append]; omega, HB9.out⟩
        case measure => simp [intOf]; omega
      · obtain rfl : i = l.length := by omega
        have j1 : ¬ (l.length : Int) < (l.length : Int) := by omega
        have HR := Lib.hid (show mres = (out, 0) by
          rw [HM.out, ← HA.out, List.drop_eq_nil_of_le (Nat.le_refl _)]
          show _ = (out, (0 : Int))
          rw [show mbE last [] = [] from rfl, List.append_nil])
        have ST := Lib.hid (Tryz.Builder_String_any B B out wr HBL.out (Nat.le_of_lt (tbld_lt HBL.out)))
        go_wp2_with fail
        refine ST.out.mono ?_
        rintro e w2 ⟨rfl, hb2⟩
        have HB2 := Lib.hid (HB.out.trans (hb2.mono hB0))
        clear hb2
        go_wp2_with fail
        go_ret2
        exact ⟨by rw [HR.out]; rfl, HB2.out⟩
  · have HM := Lib.hid (show mbytesS l = ([], rightS l) from if_pos hr)
    have q1 : (rightS l != 0) = true := by simp [hr]
    generalize rightS l = re at *
    generalize mbytesS l = mres at *
    clear hr
    go_enter Tryz.func40, Tryz.ntmps40
    go_wp2_with fail
    refine RT.out.mono ?_
    rintro e w1 ⟨rfl, hb1⟩
    go_wp2_with fail
    go_ret2
    exact ⟨by rw [HM.out]; rfl, hb1⟩
end Go.Proofs.YtamiacmnobklaaaGreatDoor
