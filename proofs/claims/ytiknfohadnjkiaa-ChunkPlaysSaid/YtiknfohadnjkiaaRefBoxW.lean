/- The document's box: All, Missing, Put. -/
import Derived.Test.YtiknfohadnjkiaaBoxC
import Derived.Test.YtiknfohadnjkiaaChunkMath
import Derived.Test.YtiknfohadnjkiaaFrame
import Derived.Test.YtiknfohadnjkiaaGen
import Derived.Test.YtiknfohadnjkiaaOwnL
import Derived.Test.YtiknfohadnjkiaaOwnPut
import Derived.Test.YtiknfohadnjkiaaQuietLaw
import Derived.Test.YtiknfohadnjkiaaRefKeep2W
import Derived.Test.YtiknfohadnjkiaaRefKeep4W
import Derived.Test.YtiknfohadnjkiaaRowN
import Derived.Test.YtiknfohadnjkiaaRows
import Derived.BigQuiet
import Derived.BigRegion
import Derived.Deep.QuietTactic
import Derived.Deep.RegionHeld3
import Derived.Laws.Concat
import Derived.Lib.Hide
import Derived.Outline
import Derived.WalkKit
import Derived.WalkLawsBesides
import Derived.WalkSpells
set_option linter.unusedVariables false
namespace Go.Proofs.Ytiknfohadnjkiaa
open Go.RowKit

def encPc (o : Option (List UInt8)) : List Value := [.bool o.isSome, .string ⟨(o.getD []).toArray⟩]
theorem encPc_ok : EncN encPc 2 := ⟨fun _ => rfl, fun x u hu => by simp [encPc] at hu; rcases hu with rfl | rfl <;> rfl⟩
/-- The document's box in block q, its places in block g. -/
structure DocB (w : World) (base q g c : Nat) (st : BoxS) : Prop where
  box : w.heap[q]? = some (.cells #[.slice (some ⟨g, 0, none⟩) st.length c] 37 (0, 0))
  own : OwnN encPc 2 w base 65 (.slice (some ⟨g, 0, none⟩) st.length c) st
  ne : q ≠ g
  qb : base ≤ q
  len : st.length ≤ 4096
  all : (allB st).length ≤ 524288
theorem DocB.new {w w' : World} {base q g c : Nat} {st : BoxS} (h : DocB w base q g c st) (hb : Below w.heap.size w w') : DocB w' base q g c st :=
  ⟨(Kept.new hb (fun _ => False)).old h.box id, h.own.new hb, h.ne, h.qb, h.len, h.all⟩
theorem DocB.kept {w w' : World} {base q g c : Nat} {st : BoxS} {M : Nat → Prop} (h : DocB w base q g c st) (hk : Kept M w w') (hq : ¬ M q) (hg : ¬ M g) : DocB w' base q g c st :=
  ⟨hk.old h.box hq, h.own.kept hk (fun j hj e => by injection hj with hj; have hj' : g = j := hj; rw [hj'] at hg; exact hg e), h.ne, h.qb, h.len, h.all⟩
theorem DocB.cell {w : World} {base q g c : Nat} {st : BoxS} (h : DocB w base q g c st) : w.cell? ⟨q, 0, none⟩ = some (.slice (some ⟨g, 0, none⟩) st.length c) := by rw [cell_of_row _ _ _ _ _ _ h.box]; rfl
theorem DocB.at {w : World} {base q g c : Nat} {st : BoxS} (h : DocB w base q g c st) {i : Nat} (hi : i < st.length) : w.cell? ⟨g, i * 2, none⟩ = some (.bool st[i].isSome) ∧ w.cell? ⟨g, i * 2 + 1, none⟩ = some (.string ⟨(st[i].getD []).toArray⟩) ∧ w.frozen? ⟨g, i * 2, none⟩ = false ∧ w.frozen? ⟨g, i * 2 + 1, none⟩ = false := by
  obtain ⟨g', c', hv, _, _, _, hel, hfz⟩ := h.own.atB encPc_ok (by intro e; rw [e] at hi; exact absurd hi (by simp))
  injection hv with ea _ _
  injection ea with ea
  injection ea with ea1 _ _
  subst ea1
  exact ⟨hel i hi 0 _ rfl, hel i hi 1 _ rfl, hfz _, hfz _⟩
theorem DocB.room {w : World} {base q g c : Nat} {st : BoxS} (h : DocB w base q g c st) : st.length ≤ c := by
  obtain ⟨_, _, hv, hc⟩ := (OwnN.row encPc_ok h.own).slice
  injection hv with _ _ e
  omega
theorem DocB.lt {w : World} {base q g c : Nat} {st : BoxS} (h : DocB w base q g c st) : q < w.heap.size ∧ g < w.heap.size ∧ base ≤ g := ⟨(Array.getElem?_eq_some_iff.1 h.box).1, (h.own.lt (g := g) rfl).2.1, (h.own.lt (g := g) rfl).1⟩
theorem allB_take (st : BoxS) (i : Nat) (h : i < st.length) : allB (st.take (i + 1)) = allB (st.take i) ++ st[i].getD [] := by
  rw [List.take_succ_eq_append_getElem h, allB_snoc]
theorem allB_take_le (st : BoxS) (i : Nat) : (allB (st.take i)).length ≤ (allB st).length := by
  have : st = st.take i ++ st.drop i := (List.take_append_drop i st).symm
  have e : allB st = allB (st.take i) ++ allB (st.drop i) := by
    unfold allB
    rw [← List.flatten_append, ← List.map_append, List.take_append_drop]
  rw [e, List.length_append]
  omega
set_option maxRecDepth 100000 in
set_option maxHeartbeats 2000000 in
theorem refAll13_any (w : World) (base q g c : Nat) (st : BoxS) (h : DocB w base q g c st) :
    Calls Try.prog 28 #[.pointer (some ⟨q, 0, none⟩)] w fun e w' => e = .returned (.string ⟨(allB st).toArray⟩) ∧ w = w' := by
  have HD := Lib.hid h
  have c0 := h.cell
  have hlen := h.len
  clear h
  go_enter Try.func28, Try.ntmps28
  go_wp2_with fail
  go_loopw [3, 4] (fun v3 v4 wr => ∃ i : Nat, i ≤ st.length ∧ v4 = .int .i64 (i : Nat) ∧ v3 = .string ⟨(allB (st.take i)).toArray⟩ ∧ w = wr) (fun _ v4 _ => st.length - (intOf v4).toNat)
  case atStart => exact ⟨0, Nat.zero_le _, rfl, rfl, rfl⟩
  case round =>
    obtain ⟨i, hi, rfl, rfl, rfl⟩ := hrel
    have i0 : (0 : Int) ≤ (i : Int) := by omega
    by_cases hlt : i < st.length
    · have j1 : (i : Int) < (st.length : Int) := by omega
      obtain ⟨d0, d1, _, _⟩ := HD.out.at hlt
      have HT := Lib.hid (allB_take st i hlt)
      have hle := allB_take_le st (i + 1)
      have hal := HD.out.all
      rw [HT.out, List.length_append] at hle
      have hadd : (Op.stringOp .add ⟨(allB (st.take i)).toArray⟩ ⟨(st[i].getD []).toArray⟩).run Try.prog w = .ok (.string ⟨(allB (st.take (i + 1))).toArray⟩) w := by
        rw [run_string_add_sum w _ _ (by
          have h0 : (ByteArray.mk (allB (st.take i)).toArray).size = (allB (st.take i)).length := rfl
          have h1 : (ByteArray.mk (st[i].getD []).toArray).size = (st[i].getD []).length := rfl
          rw [h0, h1]
          omega), ByteArray.mk_append_mk, HT.out]
        try simp
      obtain ⟨y, hy⟩ : ∃ y, y = allB (st.take (i + 1)) := ⟨_, rfl⟩
      have HY := Lib.hid hy
      rw [← hy] at hadd
      generalize allB (st.take i) = x at *
      generalize st[i].getD [] = z at *
      clear hle hy
      go_wp2_with fail
      go_roundw
      case rel => exact ⟨i + 1, hlt, by go_num, by rw [HY.out], trivial⟩
      case measure => simp [intOf]; omega
    · have j1 : ¬ (i : Int) < (st.length : Int) := by omega
      have HT := Lib.hid (show allB (st.take i) = allB st by rw [List.take_of_length_le (by omega)])
      go_wp2_with fail
      go_ret
      exact ⟨by rw [← HT.out]; rfl, rfl⟩
set_option maxRecDepth 100000 in
set_option maxHeartbeats 2000000 in
theorem refMissing13_any (w : World) (base q g c : Nat) (st : BoxS) (h : DocB w base q g c st) :
    Calls Try.prog 18 #[.pointer (some ⟨q, 0, none⟩)] w fun e w' => ∃ v', e = .returned v' ∧ OwnN encI1 1 w' w.heap.size 3 v' ((missB st).map (fun i : Nat => (i : Int))) ∧ Below w.heap.size w w' := by
  have HD := Lib.hid h
  have hlen := h.len
  clear h
  go_enter Try.func18, Try.ntmps18
  go_wp2_with fail
  go_loopw [3, 4] (fun v3 v4 wr => ∃ i : Nat, i ≤ st.length ∧ v4 = .int .i64 (i : Nat) ∧ OwnN encI1 1 wr w.heap.size 3 v3 ((missB (st.take i)).map (fun i : Nat => (i : Int))) ∧ Below w.heap.size w wr) (fun _ v4 _ => st.length - (intOf v4).toNat)
  case atStart => exact ⟨0, Nat.zero_le _, rfl, OwnN.nil _ _ _ _ _, Below.refl _ _⟩
  case round =>
    obtain ⟨i, hi, rfl, hown, hb⟩ := hrel
    have HO := Lib.hid hown
    have HB := Lib.hid hb
    have HDR := Lib.hid (HD.out.new hb)
    clear hown hb
    have c0 := HDR.out.cell
    have i0 : (0 : Int) ≤ (i : Int) := by omega
    by_cases hlt : i < st.length
    · have j1 : (i : Int) < (st.length : Int) := by omega
      obtain ⟨d0, d1, _, _⟩ := HDR.out.at hlt
      have HT := Lib.hid (show (missB (st.take (i + 1))).map (fun i : Nat => (i : Int)) = (missB (st.take i)).map (fun i : Nat => (i : Int)) ++ if st[i] = none then [(i : Int)] else [] by
        rw [List.take_succ_eq_append_getElem hlt, missB_snoc, List.map_append, List.length_take, Nat.min_eq_left (by omega)]
        congr 1
        split <;> rfl)
      have hol : ((missB (st.take i)).map (fun i : Nat => (i : Int))).length ≤ 4096 := by
        rw [List.length_map, missB_len _ _ rfl]
        have : leftB (st.take i) ≤ (st.take i).length := List.countP_le_length
        rw [List.length_take] at this
        omega
      have hsz := HB.out.size
      generalize (missB (st.take i)).map (fun i : Nat => (i : Int)) = out at *
      cases ho : st[i] with
      | none =>
        rw [ho] at d0 d1 HT
        have HT1 := Lib.hid (HT.out.trans (by rw [if_pos rfl]))
        clear HT ho
        dsimp only [Option.isSome] at d0
        go_wp2_with (at_builtin; go_loud (refine append_new (enc := encI1) (k := 1) (w := wr) (by rfl) (.tmp 23) (.tmp 25) 43 3 (.int .i64 0) 8 (by rfl) Try.underlying43 info_int12 (by rfl) (by decide) encI1_ok w.heap.size _ out (i : Int) (by rfl) HO.out (by rfl) (by omega) (by unfold maxLen; omega) hsz _ (by rfl) ?_; intro v7 w7 hown7 ht7; have HO7 := Lib.hid hown7; have HB7 := Lib.hid (HB.out.trans ht7.bel); clear hown7 ht7))
        go_roundw
        case rel => exact ⟨i + 1, hlt, by go_num, by rw [HT1.out]; exact HO7.out, HB7.out⟩
        case measure => simp [intOf]; omega
      | some t =>
        rw [ho] at d0 d1 HT
        have HT1 := Lib.hid (HT.out.trans (by rw [if_neg (by simp), List.append_nil]))
        clear HT ho
        dsimp only [Option.isSome] at d0
        go_wp2_with fail
        go_roundw
        case rel => exact ⟨i + 1, hlt, by go_num, by rw [HT1.out]; exact HO.out, HB.out⟩
        case measure => simp [intOf]; omega
    · have j1 : ¬ (i : Int) < (st.length : Int) := by omega
      rw [List.take_of_length_le (by omega)] at HO
      go_wp2_with fail
      go_ret
      exact ⟨_, rfl, HO.out, HB.out⟩
theorem putE_some {st : BoxS} {p : PartD} {i : Nat} (hi : i < st.length) (hp : p.at' = (i : Int)) (ho : p.of' = (st.length : Int)) {t : List UInt8} (h : st[i] = some t) : putE st p = if t = p.text then 0 else 6 := by
  unfold putE
  rw [if_neg (by omega), if_neg (by omega), hp]
  simp only [Int.toNat_natCast, List.getElem?_eq_getElem hi, Option.getD_some, h]
theorem putE_none {st : BoxS} {p : PartD} {i : Nat} (hi : i < st.length) (hp : p.at' = (i : Int)) (ho : p.of' = (st.length : Int)) (h : st[i] = none) : putE st p = if 524288 < (allB st).length + p.text.length then 4 else 0 := by
  unfold putE
  rw [if_neg (by omega), if_neg (by omega), hp]
  simp only [Int.toNat_natCast, List.getElem?_eq_getElem hi, Option.getD_some, h]
theorem allB_set (st : BoxS) (i : Nat) (t : List UInt8) (hi : i < st.length) (hn : st[i] = none) : (allB (st.set i (some t))).length = (allB st).length + t.length := by
  have e : st = st.take i ++ (none :: st.drop (i + 1)) := by rw [← hn, ← List.drop_eq_getElem_cons hi, List.take_append_drop]
  have e2 : st.set i (some t) = st.take i ++ (some t :: st.drop (i + 1)) := by
    rw [List.set_eq_take_append_cons_drop, if_pos hi]
  rw [e2]
  conv => rhs; rw [e]
  unfold allB
  simp
  omega
set_option maxRecDepth 100000 in
set_option maxHeartbeats 4000000 in
theorem refPut13_any (w : World) (base q g c : Nat) (st : BoxS) (p : PartD) (h : DocB w base q g c st) (hp : PartOk p) :
    Calls Try.prog 26 #[.pointer (some ⟨q, 0, none⟩), partV p] w fun e w' => e = .returned (.int .i64 (putE st p)) ∧ DocB w' base q g c (putB' st p) ∧ Kept (· = g) w w' := by
  have HD := Lib.hid h
  have hlen := h.len
  have hroom := h.room
  have hall := h.all
  obtain ⟨⟨pa1, pa2⟩, ⟨po1, po2⟩, pt⟩ := hp
  have HE := Lib.hid (show putE st p = if p.of' ≠ st.length then 1 else if p.at' < 0 ∨ (st.length : Int) ≤ p.at' then 2 else match st[p.at'.toNat]?.getD none with | some t => if t = p.text then 0 else 6 | none => if 524288 < (allB st).length + p.text.length then 4 else 0 from rfl)
  have HP := Lib.hid (show putB' st p = if putE st p ≠ 0 then st else st.set p.at'.toNat (some p.text) from rfl)
  have HS1 := Lib.hid (fun i (hi : i < st.length) h1 h2 t (h : st[i] = some t) => putE_some (p := p) hi h1 h2 h)
  have HS0 := Lib.hid (fun i (hi : i < st.length) h1 h2 (h : st[i] = none) => putE_none (p := p) hi h1 h2 h)
  obtain ⟨xa, xo, xt⟩ := p
  dsimp only at pa1 pa2 po1 po2 pt HS1 HS0
  have hbA : Below w.heap.size w (w.alloc (.cells #[.int .i64 xa, .int .i64 xo, .string ⟨xt.toArray⟩] 40)) := (Below.refl _ w).alloc (Nat.le_refl _) _
  have HDA := Lib.hid (h.new hbA)
  have HKA := Lib.hid (Kept.new hbA (· = g))
  have hbx := heap_alloc_new w (.cells #[.int .i64 xa, .int .i64 xo, .string ⟨xt.toArray⟩] 40)
  have SX := Lib.hid (show (⟨xt.toArray⟩ : ByteArray).size = xt.length from rfl)
  have hgw := h.lt.2.1
  clear h hbA
  unfold partV
  dsimp only
  go_enter Try.func26, Try.ntmps26
  go_wp2_with fail
  generalize w.alloc (.cells #[.int .i64 xa, .int .i64 xo, .string ⟨xt.toArray⟩] 40) = wA at *
  obtain ⟨nb, hnb⟩ : ∃ nb, nb = w.heap.size := ⟨_, rfl⟩
  rw [← hnb] at hbx ⊢
  have hgn : g ≠ nb := by omega
  clear hnb hgw
  have HXA := Lib.hid hbx
  have c0 := HDA.out.cell
  have k0 : wA.cell? ⟨nb, 0, none⟩ = some (.int .i64 xa) := by rw [cell_of_row _ _ _ _ _ _ HXA.out]; rfl
  have k1 : wA.cell? ⟨nb, 1, none⟩ = some (.int .i64 xo) := by rw [cell_of_row _ _ _ _ _ _ HXA.out]; rfl
  have k2 : wA.cell? ⟨nb, 2, none⟩ = some (.string ⟨xt.toArray⟩) := by rw [cell_of_row _ _ _ _ _ _ HXA.out]; rfl
  clear hbx
  by_cases b1 : xo = (st.length : Int)
  · have q1 : (xo != (st.length : Int)) = false := by simp [b1]
    have HB1 := Lib.hid b1
    clear b1
    go_quiet (fail)
    have HD1 := Lib.hid (HDA.out.new (Below_drewN (Below.refl wA.heap.size wA) nq))
    have HK1 := Lib.hid (HKA.out.trans (Kept.new (Below_drewN (Below.refl wA.heap.size wA) nq) (· = g)))
    have HX1 := Lib.hid ((Kept.new (Below_drewN (Below.refl wA.heap.size wA) nq) (fun _ => False)).old HXA.out id)
    clear k0 k1 k2 c0
    generalize wA.drewN nq = w1 at *
    have c0 := HD1.out.cell
    have k0 : w1.cell? ⟨nb, 0, none⟩ = some (.int .i64 xa) := by rw [cell_of_row _ _ _ _ _ _ HX1.out]; rfl
    have k1 : w1.cell? ⟨nb, 1, none⟩ = some (.int .i64 xo) := by rw [cell_of_row _ _ _ _ _ _ HX1.out]; rfl
    have k2 : w1.cell? ⟨nb, 2, none⟩ = some (.string ⟨xt.toArray⟩) := by rw [cell_of_row _ _ _ _ _ _ HX1.out]; rfl
    by_cases b2 : xa < 0 ∨ (st.length : Int) ≤ xa
    · have HZ := Lib.hid (HE.out.trans (by rw [if_neg (by simp [HB1.out]), if_pos b2]))
      have HPZ := Lib.hid (HP.out.trans (if_pos (by rw [HZ.out]; decide)))
      rcases (show xa < 0 ∨ (¬ xa < 0 ∧ (st.length : Int) ≤ xa) by omega) with b3 | ⟨b3, b4⟩
      · have m1 : decide (xa < 0) = true := decide_eq_true b3
        clear b2
        go_wp2_with fail
        go_quiet (fail)
        have HDQ := Lib.hid (HD1.out.new (Below_drewN (Below.refl w1.heap.size w1) nq))
        have HKQ := Lib.hid (HK1.out.trans (Kept.new (Below_drewN (Below.refl w1.heap.size w1) nq) (· = g)))
        go_wp2_with fail
        go_ret
        exact ⟨by rw [HZ.out]; rfl, by rw [HPZ.out]; exact HDQ.out, HKQ.out⟩
      · have m1 : decide (xa < 0) = false := decide_eq_false b3
        have m2 : decide ((st.length : Int) ≤ xa) = true := decide_eq_true b4
        clear b2
        go_wp2_with fail
        go_quiet (fail)
        have HDQ := Lib.hid (HD1.out.new (Below_drewN (Below.refl w1.heap.size w1) nq))
        have HKQ := Lib.hid (HK1.out.trans (Kept.new (Below_drewN (Below.refl w1.heap.size w1) nq) (· = g)))
        go_wp2_with fail
        go_ret
        exact ⟨by rw [HZ.out]; rfl, by rw [HPZ.out]; exact HDQ.out, HKQ.out⟩
    · have HB2 := Lib.hid b2
      have b3 : ¬ xa < 0 := fun c => b2 (.inl c)
      have b4 : ¬ (st.length : Int) ≤ xa := fun c => b2 (.inr c)
      have m1 : decide (xa < 0) = false := decide_eq_false b3
      have m2 : decide ((st.length : Int) ≤ xa) = false := decide_eq_false b4
      clear b2
      go_wp2_with fail
      go_quiet (fail)
      have HD2 := Lib.hid (HD1.out.new (Below_drewN (Below.refl w1.heap.size w1) nq))
      have HK2 := Lib.hid (HK1.out.trans (Kept.new (Below_drewN (Below.refl w1.heap.size w1) nq) (· = g)))
      have HX2 := Lib.hid ((Kept.new (Below_drewN (Below.refl w1.heap.size w1) nq) (fun _ => False)).old HX1.out id)
      clear k0 k1 k2 c0
      generalize w1.drewN nq = w2 at *
      have c0 := HD2.out.cell
      have k0 : w2.cell? ⟨nb, 0, none⟩ = some (.int .i64 xa) := by rw [cell_of_row _ _ _ _ _ _ HX2.out]; rfl
      have k1 : w2.cell? ⟨nb, 1, none⟩ = some (.int .i64 xo) := by rw [cell_of_row _ _ _ _ _ _ HX2.out]; rfl
      have k2 : w2.cell? ⟨nb, 2, none⟩ = some (.string ⟨xt.toArray⟩) := by rw [cell_of_row _ _ _ _ _ _ HX2.out]; rfl
      clear m1 m2
      obtain ⟨i, hi⟩ : ∃ i : Nat, i = xa.toNat := ⟨_, rfl⟩
      have hxa : xa = (i : Int) := by omega
      subst hxa
      clear hi b3
      have i0 : (0 : Int) ≤ (i : Int) := by omega
      have hil : i < st.length := by omega
      have i1 : (i : Int) < (st.length : Int) := by omega
      have HI := Lib.hid hil
      obtain ⟨d0, d1, f0, f1⟩ := HD2.out.at hil
      clear b4
      go_wp2_with fail
      have hsx : st[i]? = some st[i] := List.getElem?_eq_getElem hil
      generalize hx : st[i] = x at *
      cases x with
      | some t =>
        dsimp only [Option.isSome, Option.getD] at d0 d1
        have HS := Lib.hid (HS1.out i hil rfl HB1.out t hx)
        have HSX := Lib.hid hsx
        clear hx hsx
        go_quiet (fail)
        have HD3 := Lib.hid (HD2.out.new (Below_drewN (Below.refl w2.heap.size w2) nq))
        have HK3 := Lib.hid (HK2.out.trans (Kept.new (Below_drewN (Below.refl w2.heap.size w2) nq) (· = g)))
        have HX3 := Lib.hid ((Kept.new (Below_drewN (Below.refl w2.heap.size w2) nq) (fun _ => False)).old HX2.out id)
        clear k0 k1 k2 c0
        have d0 : (w2.drewN nq).cell? ⟨g, i * 2, none⟩ = _ := d0
        have d1 : (w2.drewN nq).cell? ⟨g, i * 2 + 1, none⟩ = _ := d1
        have f0 : (w2.drewN nq).frozen? ⟨g, i * 2, none⟩ = _ := f0
        have f1 : (w2.drewN nq).frozen? ⟨g, i * 2 + 1, none⟩ = _ := f1
        generalize w2.drewN nq = w3 at *
        have c0 := HD3.out.cell
        have k0 : w3.cell? ⟨nb, 0, none⟩ = some (.int .i64 (i : Int)) := by rw [cell_of_row _ _ _ _ _ _ HX3.out]; rfl
        have k1 : w3.cell? ⟨nb, 1, none⟩ = some (.int .i64 xo) := by rw [cell_of_row _ _ _ _ _ _ HX3.out]; rfl
        have k2 : w3.cell? ⟨nb, 2, none⟩ = some (.string ⟨xt.toArray⟩) := by rw [cell_of_row _ _ _ _ _ _ HX3.out]; rfl
        go_wp2_with fail
        by_cases ht : t = xt
        · have e1 : (t != xt) = false := by simp [ht]
          have e2 : (t == xt) = true := by simp [ht]
          have HZ := Lib.hid (HS.out.trans (if_pos ht))
          have HPZ := Lib.hid (show putB' st ⟨(i : Int), xo, xt⟩ = st from HP.out.trans (by
            rw [if_neg (by rw [HZ.out]; simp)]
            show st.set (i : Int).toNat (some xt) = st
            rw [Int.toNat_natCast, ← ht]
            refine List.ext_getElem? fun a => ?_
            rw [List.getElem?_set]
            split
            · rename_i e; subst e; exact HSX.out.symm
            · rfl))
          clear ht
          go_quiet (fail)
          have HDQ := Lib.hid (HD3.out.new (Below_drewN (Below.refl w3.heap.size w3) nq))
          have HKQ := Lib.hid (HK3.out.trans (Kept.new (Below_drewN (Below.refl w3.heap.size w3) nq) (· = g)))
          go_wp2_with fail
          go_ret
          exact ⟨by rw [HZ.out]; rfl, by rw [HPZ.out]; exact HDQ.out, HKQ.out⟩
        · have e1 : (t != xt) = true := by simp [ht]
          have e2 : (t == xt) = false := by simp [ht]
          have HZ := Lib.hid (HS.out.trans (if_neg ht))
          have HPZ := Lib.hid (HP.out.trans (if_pos (by rw [HZ.out]; decide)))
          clear ht
          go_quiet (fail)
          have HDQ := Lib.hid (HD3.out.new (Below_drewN (Below.refl w3.heap.size w3) nq))
          have HKQ := Lib.hid (HK3.out.trans (Kept.new (Below_drewN (Below.refl w3.heap.size w3) nq) (· = g)))
          go_wp2_with fail
          go_ret
          exact ⟨by rw [HZ.out]; rfl, by rw [HPZ.out]; exact HDQ.out, HKQ.out⟩
      | none =>
        dsimp only [Option.isSome, Option.getD] at d0 d1
        have HS := Lib.hid (HS0.out i hil rfl HB1.out hx)
        have HNX := Lib.hid hx
        clear hx hsx
        go_quiet (fail)
        have HD3 := Lib.hid (HD2.out.new (Below_drewN (Below.refl w2.heap.size w2) nq))
        have HK3 := Lib.hid (HK2.out.trans (Kept.new (Below_drewN (Below.refl w2.heap.size w2) nq) (· = g)))
        have HX3 := Lib.hid ((Kept.new (Below_drewN (Below.refl w2.heap.size w2) nq) (fun _ => False)).old HX2.out id)
        clear k0 k1 k2 c0
        have d0 : (w2.drewN nq).cell? ⟨g, i * 2, none⟩ = _ := d0
        have d1 : (w2.drewN nq).cell? ⟨g, i * 2 + 1, none⟩ = _ := d1
        have f0 : (w2.drewN nq).frozen? ⟨g, i * 2, none⟩ = _ := f0
        have f1 : (w2.drewN nq).frozen? ⟨g, i * 2 + 1, none⟩ = _ := f1
        generalize w2.drewN nq = w3 at *
        have c0 := HD3.out.cell
        have k0 : w3.cell? ⟨nb, 0, none⟩ = some (.int .i64 (i : Int)) := by rw [cell_of_row _ _ _ _ _ _ HX3.out]; rfl
        have k1 : w3.cell? ⟨nb, 1, none⟩ = some (.int .i64 xo) := by rw [cell_of_row _ _ _ _ _ _ HX3.out]; rfl
        have k2 : w3.cell? ⟨nb, 2, none⟩ = some (.string ⟨xt.toArray⟩) := by rw [cell_of_row _ _ _ _ _ _ HX3.out]; rfl
        go_wp2_with fail
        obtain ⟨al, hal⟩ : ∃ al, al = allB st := ⟨_, rfl⟩
        have HALL := Lib.hid hal
        have AL := fun m => Lib.hid (refAll13_any (w3.drewN m) base q g c st (HD3.out.new (Below_drewN (Below.refl w3.heap.size w3) m)))
        rw [← hal] at AL
        rw [← hal] at HS
        have hla : al.length ≤ 524288 := by rw [hal]; exact hall
        have SAL := Lib.hid (show (⟨al.toArray⟩ : ByteArray).size = al.length from rfl)
        clear hal
        have u1 : IntKind.i64.wrap ((al.length : Int) + (xt.length : Int)) = (al.length : Int) + (xt.length : Int) := IntWalk.i64_in _ (by omega)
        by_cases hl : 524288 < al.length + xt.length
        · have e1 : decide ((524288 : Int) < (al.length : Int) + (xt.length : Int)) = true := decide_eq_true (by omega)
          have HZ := Lib.hid (HS.out.trans (if_pos hl))
          have HPZ := Lib.hid (HP.out.trans (if_pos (by rw [HZ.out]; decide)))
          clear hl
          go_quiet ((go_at_call 28; (with_reducible exact quiet_left (AL _).out)))
          have HDQ := Lib.hid (HD3.out.new (Below_drewN (Below.refl w3.heap.size w3) nq))
          have HKQ := Lib.hid (HK3.out.trans (Kept.new (Below_drewN (Below.refl w3.heap.size w3) nq) (· = g)))
          go_wp2_with fail
          go_ret
          exact ⟨by rw [HZ.out]; rfl, by rw [HPZ.out]; exact HDQ.out, HKQ.out⟩
        · have e1 : decide ((524288 : Int) < (al.length : Int) + (xt.length : Int)) = false := decide_eq_false (by omega)
          have HZ := Lib.hid (HS.out.trans (if_neg hl))
          have HLL := Lib.hid hl
          clear hl
          go_quiet ((go_at_call 28; (with_reducible exact quiet_left (AL _).out)))
          have HD4 := Lib.hid (HD3.out.new (Below_drewN (Below.refl w3.heap.size w3) nq))
          have HK4 := Lib.hid (HK3.out.trans (Kept.new (Below_drewN (Below.refl w3.heap.size w3) nq) (· = g)))
          have HX4 := Lib.hid ((Kept.new (Below_drewN (Below.refl w3.heap.size w3) nq) (fun _ => False)).old HX3.out id)
          clear k0 k1 k2 c0 AL e1 u1 hla SAL
          have d0 : (w3.drewN nq).cell? ⟨g, i * 2, none⟩ = _ := d0
          have d1 : (w3.drewN nq).cell? ⟨g, i * 2 + 1, none⟩ = _ := d1
          have f0 : (w3.drewN nq).frozen? ⟨g, i * 2, none⟩ = _ := f0
          have f1 : (w3.drewN nq).frozen? ⟨g, i * 2 + 1, none⟩ = _ := f1
          generalize w3.drewN nq = w4 at *
          have c0 := HD4.out.cell
          have k0 : w4.cell? ⟨nb, 0, none⟩ = some (.int .i64 (i : Int)) := by rw [cell_of_row _ _ _ _ _ _ HX4.out]; rfl
          have k1 : w4.cell? ⟨nb, 1, none⟩ = some (.int .i64 xo) := by rw [cell_of_row _ _ _ _ _ _ HX4.out]; rfl
          have k2 : w4.cell? ⟨nb, 2, none⟩ = some (.string ⟨xt.toArray⟩) := by rw [cell_of_row _ _ _ _ _ _ HX4.out]; rfl
          have HPZ := Lib.hid (show putB' st ⟨(i : Int), xo, xt⟩ = st.set i (some xt) from HP.out.trans (by rw [if_neg (by rw [HZ.out]; simp)]; rfl))
          have HSE := Lib.hid (show DocB ((w4.setCell ⟨g, i * 2, none⟩ (.bool true)).setCell ⟨g, i * 2 + 1, none⟩ (.string ⟨xt.toArray⟩)) base q g c (st.set i (some xt)) ∧ Kept (· = g) w4 ((w4.setCell ⟨g, i * 2, none⟩ (.bool true)).setCell ⟨g, i * 2 + 1, none⟩ (.string ⟨xt.toArray⟩)) from by
            have h0 := HD4.out
            obtain ⟨a1, a2⟩ := OwnN.putB encPc_ok h0.own i 0 (.bool true) (some []) HI.out (by decide) ((fun (x : Option (List UInt8)) (hx : x = none) => show encPc (some []) = (encPc x).set 0 (.bool true) by subst hx; rfl) _ HNX.out)
            obtain ⟨b1, b2⟩ := OwnN.putB encPc_ok a1 i 1 (.string ⟨xt.toArray⟩) (some xt) (by rw [List.length_set]; exact HI.out) (by decide) (by rw [List.getElem_set, if_pos rfl]; rfl)
            rw [List.set_set] at b1
            rw [Nat.add_zero] at a1 a2 b1 b2
            have hl2 : (st.set i (some xt)).length = st.length := List.length_set
            have kk := a2.trans b2
            refine ⟨⟨?_, ?_, h0.ne, h0.qb, by rw [hl2]; exact h0.len, ?_⟩, kk⟩
            · rw [hl2]; exact kk.old h0.box h0.ne
            · rw [hl2]; exact b1
            · rw [allB_set st i xt HI.out HNX.out, ← HALL.out]
              have := HLL.out
              omega)
          go_wp2_with fail
          go_region
          generalize (w4.setCell ⟨g, i * 2, none⟩ (.bool true)).setCell ⟨g, i * 2 + 1, none⟩ (.string ⟨xt.toArray⟩) = w5 at *
          have hbd : Below w5.heap.size w5 w5.drew := Below_drew (Below.refl w5.heap.size w5)
          have HDZ := Lib.hid (HSE.out.1.new hbd)
          have HKZ := Lib.hid ((HK4.out.trans HSE.out.2).trans (Kept.new hbd (· = g)))
          clear hbd
          go_wp2_with fail
          go_ret
          exact ⟨by rw [HZ.out]; rfl, by rw [HPZ.out]; exact HDZ.out, HKZ.out⟩
  · have q1 : (xo != (st.length : Int)) = true := by simp [b1]
    have HZ := Lib.hid (HE.out.trans (if_pos b1))
    have HPZ := Lib.hid (HP.out.trans (if_pos (by rw [HZ.out]; decide)))
    clear b1
    go_quiet (fail)
    have HDQ := Lib.hid (HDA.out.new (Below_drewN (Below.refl wA.heap.size wA) nq))
    have HKQ := Lib.hid (HKA.out.trans (Kept.new (Below_drewN (Below.refl wA.heap.size wA) nq) (· = g)))
    go_wp2_with fail
    go_ret
    exact ⟨by rw [HZ.out]; rfl, by rw [HPZ.out]; exact HDQ.out, HKQ.out⟩
end Go.Proofs.Ytiknfohadnjkiaa
