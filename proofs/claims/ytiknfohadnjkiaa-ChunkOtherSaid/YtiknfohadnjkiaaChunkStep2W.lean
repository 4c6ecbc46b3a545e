/- Stage 13's laws: a call of both boxes, walked. -/
import Derived.Test.YtiknfohadnjkiaaBoxC
import Derived.Test.YtiknfohadnjkiaaChunkAwakeW
import Derived.Test.YtiknfohadnjkiaaChunkBoxM
import Derived.Test.YtiknfohadnjkiaaChunkMath
import Derived.Test.YtiknfohadnjkiaaChunkStepW
import Derived.Test.YtiknfohadnjkiaaFrame
import Derived.Test.YtiknfohadnjkiaaGen
import Derived.Test.YtiknfohadnjkiaaOwnL
import Derived.Test.YtiknfohadnjkiaaRefBoxW
import Derived.Test.YtiknfohadnjkiaaRowN
import Derived.Test.YtiknfohadnjkiaaRows
import Derived.BigQuiet
import Derived.Deep.QuietTactic
import Derived.Deep.RegionHeld3
import Derived.Lib.Hide
import Derived.Outline
import Derived.WalkKit
import Derived.WalkLawsBesides
import Derived.WalkSpells
set_option linter.unusedVariables false
namespace Go.Proofs.Ytiknfohadnjkiaa
open Go.RowKit

set_option maxRecDepth 100000 in
set_option maxHeartbeats 4000000 in
theorem step13_put {BX : World → Nat → (Nat → Prop) → BoxS → Prop} (BC : BoxC BX) (o : OpC) (ho : OpOk o) (hk : o.kind = 0) (w : World) (b : Nat) (N : Nat → Prop) (base q g c : Nat) (st : BoxS) (hx : BX w b N st) (hd : DocB w base q g c st) (hq : ¬ N q) (hg : ¬ N g) :
    Calls Try.prog 17 #[.pointer (some ⟨b, 0, none⟩), .pointer (some ⟨q, 0, none⟩), opV o] w fun e w' => e = .returned (.bool true) ∧ ∃ N', BX w' b N' (stepB st o) ∧ DocB w' base q g c (stepB st o) ∧ ¬ N' q ∧ ¬ N' g ∧ (∀ i, N' i → N i ∨ w.heap.size ≤ i) ∧ Kept (fun i => N i ∨ i = g) w w' := by
  have HST := Lib.hid (show stepB st o = putB' st (shortP o.part) by unfold stepB; rw [if_pos hk])
  have HPO := Lib.hid ho.p
  have HSO := Lib.hid (shortP_ok ho.p)
  have HSH := Lib.hid (fun X => short13_any o.part X ho.p)
  have hbA : Below w.heap.size w (w.alloc (.cells #[.int .i64 o.kind, .int .i64 o.n, .int .i64 o.part.at', .int .i64 o.part.of', .string ⟨o.part.text.toArray⟩] 42)) := (Below.refl _ w).alloc (Nat.le_refl _) _
  have hlt := hd.lt
  have HS0 := Lib.hid (show SSt BX w (w.alloc (.cells #[.int .i64 o.kind, .int .i64 o.n, .int .i64 o.part.at', .int .i64 o.part.of', .string ⟨o.part.text.toArray⟩] 42)) b N N base q g c w.heap.size st st o from
    ⟨BC.kept hx (Kept.new hbA (fun _ => False)) (fun _ _ h => h), hd.new hbA, heap_alloc_new w _, fun i h => .inl h, hq, hg, fun h => absurd (BC.lt hx _ h) (Nat.lt_irrefl _), by omega, by omega, Kept.new hbA _⟩)
  have HP1 := Lib.hid (fun X M (h : BX X b M st) => BC.put (shortP o.part) h HSO.out)
  have HP2 := Lib.hid (fun X (h : DocB X base q g c st) => refPut13_any X base q g c st (shortP o.part) h HSO.out)
  rw [HST.out]
  have he : (putE st (shortP o.part) == putE st (shortP o.part)) = true := by simp
  generalize putE st (shortP o.part) = ev at *
  generalize putB' st (shortP o.part) = st1 at *
  generalize shortP o.part = sp at *
  clear hx hd hbA hlt
  obtain ⟨k, n, ⟨pa, po, pt⟩⟩ := o
  dsimp only at hk
  subst hk
  unfold opV
  unfold partV at *
  dsimp only at *
  go_enter Try.func17, Try.ntmps17
  obtain ⟨c0, c1, c2, c3, c4⟩ := HS0.out.c2
  dsimp only at c0 c1 c2 c3 c4
  go_wp2_with fail
  generalize w.alloc (.cells #[.int .i64 0, .int .i64 n, .int .i64 pa, .int .i64 po, .string ⟨pt.toArray⟩] 42) = wA at *
  obtain ⟨nb, hnb⟩ : ∃ nb, nb = w.heap.size := ⟨_, rfl⟩
  rw [← hnb] at HS0 c0 c1 c2 c3 c4 ⊢
  have HNB := Lib.hid hnb
  clear hnb
  have HSD := Lib.hid (HS0.out.new BC (Below_drew (Below.refl wA.heap.size wA)))
  have c2 : wA.drew.cell? ⟨nb, 2, none⟩ = some (.int .i64 pa) := c2
  have c3 : wA.drew.cell? ⟨nb, 3, none⟩ = some (.int .i64 po) := c3
  have c4 : wA.drew.cell? ⟨nb, 4, none⟩ = some (.string ⟨pt.toArray⟩) := c4
  go_region_held3 (fun w' => w'.cell? ⟨nb, 2, none⟩ = some (.int .i64 pa) ∧ w'.cell? ⟨nb, 3, none⟩ = some (.int .i64 po) ∧ w'.cell? ⟨nb, 4, none⟩ = some (.string ⟨pt.toArray⟩))
    (first | with_reducible exact ⟨by assumption, by assumption, by assumption⟩ | go_keep)
    (first
      | (go_at_call 25; go_split_ands; refine (HSH.out wA.drew).mono ?_; rintro e wa ⟨rfl, hba⟩; have HSa := Lib.hid (HSD.out.new BC hba); obtain ⟨_, _, a2, a3, a4⟩ := HSa.out.c2; dsimp only at a2 a3 a4; clear hba)
      | (go_at_call 19; go_split_ands; refine (HP1.out _ _ HSa.out.bx).mono ?_; rintro e wb ⟨N', rfl, hxb, hnb', hkb⟩; have HSb := Lib.hid (HSa.out.put BC hxb hnb' hkb); obtain ⟨_, _, b2, b3, b4⟩ := HSb.out.c2; dsimp only at b2 b3 b4; clear hxb hnb' hkb)
      | (go_at_call 25; go_split_ands; refine (HSH.out wb).mono ?_; rintro e wc ⟨rfl, hbc⟩; have HSc := Lib.hid (HSb.out.new BC hbc); obtain ⟨_, _, d2, d3, d4⟩ := HSc.out.c2; dsimp only at d2 d3 d4; clear hbc)
      | (go_at_call 26; go_split_ands; refine (HP2.out _ HSc.out.doc).mono ?_; rintro e wd ⟨rfl, hdd, hkd⟩; have HSd := Lib.hid (HSc.out.docPut BC hdd hkd); obtain ⟨_, _, f2, f3, f4⟩ := HSd.out.c2; dsimp only at f2 f3 f4; clear hdd hkd))
  clear a2 a3 a4 b2 b3 b4 d2 d3 d4 f2 f3 f4 c0 c1 c2 c3 c4
  go_wp2_with fail
  go_ret
  exact ⟨rfl, N', HSd.out.bx, HSd.out.doc, HSd.out.nq, HSd.out.ng, HSd.out.nw, HSd.out.kp⟩
/-- What a place is when it is cleared. -/
theorem clear_step (st : BoxS) {i : Nat} (h : i < st.length) : (List.replicate i (none : Option (List UInt8)) ++ st.drop i).set i none = List.replicate (i + 1) none ++ st.drop (i + 1) := by
  rw [List.set_append_right _ _ (by simp), List.length_replicate, Nat.sub_self, List.drop_eq_getElem_cons h, List.set_cons_zero, List.replicate_succ', List.append_assoc]
  rfl
theorem allB_clear (st : BoxS) (i : Nat) : (allB (List.replicate i none ++ st.drop i)).length ≤ (allB st).length := by
  have e : allB (List.replicate i none ++ st.drop i) = allB (st.drop i) := by
    unfold allB
    rw [List.map_append, List.flatten_append]
    have := allB_none i
    unfold allB at this
    rw [this]
    rfl
  have e2 : allB st = allB (st.take i) ++ allB (st.drop i) := by
    unfold allB
    rw [← List.flatten_append, ← List.map_append, List.take_append_drop]
  rw [e, e2, List.length_append]
  omega
set_option maxRecDepth 100000 in
set_option maxHeartbeats 4000000 in
theorem step13_clear {BX : World → Nat → (Nat → Prop) → BoxS → Prop} (BC : BoxC BX) (o : OpC) (ho : OpOk o) (k0 : o.kind ≠ 0) (k1 : o.kind ≠ 1) (k2 : o.kind ≠ 2) (w : World) (b : Nat) (N : Nat → Prop) (base q g c : Nat) (st : BoxS) (hx : BX w b N st) (hd : DocB w base q g c st) (hq : ¬ N q) (hg : ¬ N g) :
    Calls Try.prog 17 #[.pointer (some ⟨b, 0, none⟩), .pointer (some ⟨q, 0, none⟩), opV o] w fun e w' => e = .returned (.bool true) ∧ ∃ N', BX w' b N' (stepB st o) ∧ DocB w' base q g c (stepB st o) ∧ ¬ N' q ∧ ¬ N' g ∧ (∀ i, N' i → N i ∨ w.heap.size ≤ i) ∧ Kept (fun i => N i ∨ i = g) w w' := by
  have HST := Lib.hid (show stepB st o = List.replicate st.length none by unfold stepB; rw [if_neg k0, if_neg (by omega)])
  have hbA : Below w.heap.size w (w.alloc (.cells #[.int .i64 o.kind, .int .i64 o.n, .int .i64 o.part.at', .int .i64 o.part.of', .string ⟨o.part.text.toArray⟩] 42)) := (Below.refl _ w).alloc (Nat.le_refl _) _
  have hlt := hd.lt
  have HA := Lib.hid hd.all
  have HS0 := Lib.hid (show SSt BX w (w.alloc (.cells #[.int .i64 o.kind, .int .i64 o.n, .int .i64 o.part.at', .int .i64 o.part.of', .string ⟨o.part.text.toArray⟩] 42)) b N N base q g c w.heap.size st st o from
    ⟨BC.kept hx (Kept.new hbA (fun _ => False)) (fun _ _ h => h), hd.new hbA, heap_alloc_new w _, fun i h => .inl h, hq, hg, fun h => absurd (BC.lt hx _ h) (Nat.lt_irrefl _), by omega, by omega, Kept.new hbA _⟩)
  rw [HST.out]
  clear hx hd hbA hlt HST
  obtain ⟨k, n, ⟨pa, po, pt⟩⟩ := o
  dsimp only at k0 k1 k2
  have q0 : (k == 0) = false := by simp [k0]
  have q1 : (k == 1) = false := by simp [k1]
  have q2 : (k == 2) = false := by simp [k2]
  clear k0 k1 k2
  unfold opV
  dsimp only at *
  go_enter Try.func17, Try.ntmps17
  obtain ⟨c0, c1, c2, c3, c4⟩ := HS0.out.c2
  dsimp only at c0 c1 c2 c3 c4
  go_wp2_with fail
  generalize w.alloc (.cells #[.int .i64 k, .int .i64 n, .int .i64 pa, .int .i64 po, .string ⟨pt.toArray⟩] 42) = wA at *
  refine (BC.clear HS0.out.bx).mono ?_
  rintro e w1 ⟨N1, rfl, hx1, hn1, hk1⟩
  have HS1 := Lib.hid (HS0.out.put BC hx1 hn1 hk1)
  clear hx1 hn1 hk1 c0 c1 c2 c3 c4
  have hlen := HS1.out.doc.len
  have hroom := HS1.out.doc.room
  go_wp2_with fail
  go_loopw [10] (fun v10 wr => ∃ i : Nat, i ≤ st.length ∧ v10 = .int .i64 (i : Nat) ∧ SSt BX w wr b N N1 base q g c w.heap.size (List.replicate st.length none) (List.replicate i none ++ st.drop i) ⟨k, n, ⟨pa, po, pt⟩⟩) (fun v10 _ => st.length - (intOf v10).toNat)
  case atStart => exact ⟨0, Nat.zero_le _, rfl, HS1.out⟩
  case round =>
    obtain ⟨i, hi, rfl, hs⟩ := hrel
    have HS := Lib.hid hs
    clear hs HS1 HS0
    have hl2 : (List.replicate i (none : Option (List UInt8)) ++ st.drop i).length = st.length := by rw [List.length_append, List.length_replicate, List.length_drop]; omega
    have c0 := HS.out.doc.cell
    rw [hl2] at c0
    have i0 : (0 : Int) ≤ (i : Int) := by omega
    by_cases hlt : i < st.length
    · have j1 : (i : Int) < (st.length : Int) := by omega
      obtain ⟨d0, d1, f0, f1⟩ := HS.out.doc.at (i := i) (by omega)
      have HSE := Lib.hid (show SSt BX w ((wr.setCell ⟨g, i * 2, none⟩ (.bool false)).setCell ⟨g, i * 2 + 1, none⟩ (.string ⟨#[]⟩)) b N N1 base q g c w.heap.size (List.replicate st.length none) (List.replicate (i + 1) none ++ st.drop (i + 1)) ⟨k, n, ⟨pa, po, pt⟩⟩ from by
        have ha := allB_clear st (i + 1)
        rw [← clear_step st hlt] at ha ⊢
        obtain ⟨x1, x2⟩ := HS.out.doc.wipe (i := i) (by omega) (by have := HA.out; omega)
        exact HS.out.docPut BC x1 x2)
      generalize (List.replicate i (none : Option (List UInt8)) ++ st.drop i)[i]'(by omega) = old at *
      clear hl2
      go_wp2_with fail
      go_roundw
      case rel => exact ⟨i + 1, hlt, by go_num, HSE.out⟩
      case measure => simp [intOf]; omega
    · have j1 : ¬ (i : Int) < (st.length : Int) := by omega
      have HZ := Lib.hid (show List.replicate i (none : Option (List UInt8)) ++ st.drop i = List.replicate st.length none by
        have : i = st.length := by omega
        subst this
        rw [List.drop_length, List.append_nil])
      rw [HZ.out] at HS
      clear hl2
      go_wp2_with fail
      go_ret
      exact ⟨rfl, N1, HS.out.bx, HS.out.doc, HS.out.nq, HS.out.ng, HS.out.nw, HS.out.kp⟩
end Go.Proofs.Ytiknfohadnjkiaa
