/- The document's chunk: Cut, Parts. -/
import Derived.Test.YtiknfohadnjkiaaBoxC
import Derived.Test.YtiknfohadnjkiaaChunkMath
import Derived.Test.YtiknfohadnjkiaaFrame
import Derived.Test.YtiknfohadnjkiaaGen
import Derived.Test.YtiknfohadnjkiaaOwnL
import Derived.Test.YtiknfohadnjkiaaRowN
import Derived.Test.YtiknfohadnjkiaaRows
import Derived.BigQuiet
import Derived.Deep.QuietTactic
import Derived.Deep.RegionHeld3
import Derived.Lib.Hide
import Derived.Outline
import Derived.WalkKit
import Derived.WalkLawsBesides
import Derived.WalkSpells
set_option linter.unusedVariables false
namespace Go.Proofs.Ytiknfohadnjkiaa
open Go.RowKit

def lenTx : Value → Nat
  | .string b => b.size
  | _ => 0
def encTx (t : List UInt8) : List Value := [.string ⟨t.toArray⟩]
theorem encTx_ok : EncN encTx 1 := ⟨fun _ => rfl, fun x u hu => by simp [encTx] at hu; rw [hu]; rfl⟩
theorem info_str13 : (Try.prog.info? 9).map (fun i => (i.zero, i.size, i.bytes)) = some (some (.string ByteArray.empty), 1, 16) := by kernel_rfl
theorem info_part13 : (Try.prog.info? 40).map (fun i => (i.zero, i.size, i.bytes)) = some (some (.agg #[.int .i64 0, .int .i64 0, .string ByteArray.empty]), 3, 32) := by kernel_rfl
theorem partsL_take (l : List (List UInt8)) (i : Nat) (h : i < l.length) : (partsL l).take (i + 1) = (partsL l).take i ++ [⟨(i : Int), (l.length : Int), l[i]⟩] := by
  rw [List.take_succ_eq_append_getElem (by rw [partsL_len]; exact h), partsL_get]
set_option maxRecDepth 100000 in
set_option maxHeartbeats 4000000 in
theorem refCut13_any (s : List UInt8) (size : Int) (w : World) (hs : s.length ≤ 140737488351232) (hz : I64 size) :
    Calls Try.prog 11 #[.string ⟨s.toArray⟩, .int .i64 size] w fun e w' => ∃ v', e = .returned (.tuple #[v', .int .i64 (cutE s size)]) ∧ OwnN encPt 3 w' w.heap.size 40 v' (cutP s size) ∧ Below w.heap.size w w' := by
  obtain ⟨z1, z2⟩ := hz
  have SA := Lib.hid (show (⟨s.toArray⟩ : ByteArray).size = s.length from rfl)
  by_cases c1 : size < 1
  · have HE := Lib.hid (show cutE s size = 1 by unfold cutE; rw [if_pos c1])
    have HP := Lib.hid (show cutP s size = [] by unfold cutP; rw [if_pos (by rw [HE.out]; decide)])
    go_enter Try.func11, Try.ntmps11
    go_wp2_with fail
    go_ret2
    exact ⟨_, by rw [HE.out]; rfl, by rw [HP.out]; exact OwnN.nil _ _ _ _ _, Below.refl _ _⟩
  · by_cases c2 : 524288 < s.length
    · have HE := Lib.hid (show cutE s size = 4 by unfold cutE; rw [if_neg c1, if_pos c2])
      have HP := Lib.hid (show cutP s size = [] by unfold cutP; rw [if_pos (by rw [HE.out]; decide)])
      have j1 : (524288 : Int) < (s.length : Int) := by omega
      go_enter Try.func11, Try.ntmps11
      go_wp2_with fail
      go_ret2
      exact ⟨_, by rw [HE.out]; rfl, by rw [HP.out]; exact OwnN.nil _ _ _ _ _, Below.refl _ _⟩
    · have j1 : ¬ (524288 : Int) < (s.length : Int) := by omega
      obtain ⟨n, hn⟩ : ∃ n : Nat, n = size.toNat := ⟨_, rfl⟩
      have hn1 : size = (n : Int) := by omega
      subst hn1
      have hn0 : 0 < n := by omega
      have HE := Lib.hid (show cutE s (n : Int) = if 4096 < (cutL n s).length then 7 else 0 by unfold cutE; rw [if_neg c1, if_neg c2]; simp)
      have HP := Lib.hid (show cutP s (n : Int) = if cutE s n ≠ 0 then [] else partsL (cutL n s) by unfold cutP; simp)
      clear hn
      go_enter Try.func11, Try.ntmps11
      go_wp2_with fail
      go_loopw [6, 7] (fun v6 v7 wr => ∃ (p : List (List UInt8)) (r : List UInt8), v7 = .string ⟨r.toArray⟩ ∧ OwnN encTx 1 wr w.heap.size 9 v6 p ∧ Below w.heap.size w wr ∧ p.length ≤ 4096 ∧ r.length ≤ s.length ∧ Hid (cutL n s = p ++ cutL n r)) (fun _ v7 _ => lenTx v7)
      case atStart => exact ⟨[], s, rfl, OwnN.nil _ _ _ _ _, Below.refl _ _, by simp, Nat.le_refl _, Lib.hid rfl⟩
      case round =>
        obtain ⟨p, r, rfl, hown, hb, hpl, hrl, HCU⟩ := hrel
        have HO := Lib.hid hown
        have HB := Lib.hid hb
        clear hown hb
        have SR := Lib.hid (show (⟨r.toArray⟩ : ByteArray).size = r.length from rfl)
        by_cases hlt : n < r.length
        · have j2 : (n : Int) < (r.length : Int) := by omega
          have hsz := HB.out.size
          have x1 : (⟨r.toArray⟩ : ByteArray).extract 0 n = ⟨(r.take n).toArray⟩ := take_toArray r n
          have x2 : (⟨r.toArray⟩ : ByteArray).extract n r.length = ⟨(r.drop n).toArray⟩ := drop_toArray r n r.length (Nat.le_refl _)
          have HCS := Lib.hid (HCU.out.trans (by rw [cutL_step hn0, if_pos hlt]))
          have hdl : (r.drop n).length = r.length - n := List.length_drop
          have HCP := Lib.hid (cutL_pos (n := n) (s := r.drop n) hn0)
          generalize r.take n = ta at *
          generalize hrd : r.drop n = td at *
          clear hrd
          have HDL := Lib.hid hdl
          have SD := Lib.hid (show (⟨td.toArray⟩ : ByteArray).size = td.length from rfl)
          clear hdl
          by_cases hp : p.length + 1 ≤ 4096
          · have j3 : ¬ (4096 : Int) < (p.length : Int) + 1 := by omega
            go_wp2_with (at_builtin; go_loud (refine append_new (enc := encTx) (k := 1) (w := wr) (by rfl) (.tmp 20) (.tmp 24) 57 9 (.string ByteArray.empty) 16 (by rfl) Try.underlying57 info_str13 (by rfl) (by decide) encTx_ok w.heap.size _ p ta (by rfl) HO.out (by rfl) (by omega) (by unfold maxLen; omega) hsz _ (by rfl) ?_; intro v7 w7 hown7 ht7; obtain ⟨sa, sc, hv7, _⟩ := (OwnN.row encTx_ok hown7).slice; rw [List.length_append, List.length_singleton] at hv7; subst hv7; have HO7 := Lib.hid hown7; have HB7 := Lib.hid (HB.out.trans ht7.bel); clear hown7 ht7))
            go_roundw
            case rel => exact ⟨p ++ [ta], td, rfl, HO7.out, HB7.out, by simp; omega, by have := HDL.out; omega, Lib.hid (by rw [HCS.out, List.append_assoc]; rfl)⟩
            case measure => have := HDL.out; simp [lenTx, SR.out, SD.out]; omega
          · have j3 : (4096 : Int) < (p.length : Int) + 1 := by omega
            have HE7 := Lib.hid (HE.out.trans (if_pos (by rw [HCS.out, List.length_append, List.length_cons]; have := HCP.out; omega)))
            have HP7 := Lib.hid (HP.out.trans (by rw [if_pos (by rw [HE7.out]; decide)]))
            go_wp2_with (at_builtin; go_loud (refine append_new (enc := encTx) (k := 1) (w := wr) (by rfl) (.tmp 20) (.tmp 24) 57 9 (.string ByteArray.empty) 16 (by rfl) Try.underlying57 info_str13 (by rfl) (by decide) encTx_ok w.heap.size _ p ta (by rfl) HO.out (by rfl) (by omega) (by unfold maxLen; omega) hsz _ (by rfl) ?_; intro v7 w7 hown7 ht7; obtain ⟨sa, sc, hv7, _⟩ := (OwnN.row encTx_ok hown7).slice; rw [List.length_append, List.length_singleton] at hv7; subst hv7; have HO7 := Lib.hid hown7; have HB7 := Lib.hid (HB.out.trans ht7.bel); clear hown7 ht7))
            go_ret2
            exact ⟨_, by rw [HE7.out]; rfl, by rw [HP7.out]; exact OwnN.nil _ _ _ _ _, HB7.out⟩
        · have j2 : ¬ (n : Int) < (r.length : Int) := by omega
          have hsz := HB.out.size
          have HCS := Lib.hid (HCU.out.trans (by rw [cutL_step hn0, if_neg hlt]))
          clear HCU SR SA
          obtain ⟨w5, hw5⟩ : ∃ w5, w5 = wr := ⟨_, rfl⟩
          rw [← hw5] at HO HB hsz ⊢
          clear hw5
          by_cases hp : p.length + 1 ≤ 4096
          · have j3 : ¬ (4096 : Int) < (p.length : Int) + 1 := by omega
            have HEF := Lib.hid (HE.out.trans (if_neg (by rw [HCS.out, List.length_append, List.length_singleton]; omega)))
            have HPF := Lib.hid (HP.out.trans (by rw [if_neg (by rw [HEF.out]; simp), HCS.out]))
            go_wp2_with (at_builtin; go_loud (refine append_new (enc := encTx) (k := 1) (w := w5) (by rfl) (.tmp 32) (.tmp 34) 57 9 (.string ByteArray.empty) 16 (by rfl) Try.underlying57 info_str13 (by rfl) (by decide) encTx_ok w.heap.size _ p r (by rfl) HO.out (by rfl) (by omega) (by unfold maxLen; omega) hsz _ (by rfl) ?_; intro v7 w7 hown7 ht7; obtain ⟨sa, sc, hv7, _⟩ := (OwnN.row encTx_ok hown7).slice; rw [List.length_append, List.length_singleton] at hv7; subst hv7; have HO7 := Lib.hid hown7; have HB7 := Lib.hid (HB.out.trans ht7.bel); clear hown7 ht7))
            obtain ⟨L, hL⟩ : ∃ L, L = p ++ [r] := ⟨_, rfl⟩
            have hLl : p.length + 1 = L.length := by rw [hL]; simp
            have HPL := Lib.hid (show cutP s (n : Int) = partsL L by rw [HPF.out, hL])
            rw [← hL] at HO7
            clear hL HPF HCS
            have HL8 := Lib.hid (OwnN.row encTx_ok HO7.out)
            clear HO7
            go_loopw [8, 9] (fun v8 v9 wx => ∃ i : Nat, i ≤ L.length ∧ v9 = .int .i64 (i : Nat) ∧ OwnN encPt 3 wx w7.heap.size 40 v8 ((partsL L).take i) ∧ Below w7.heap.size w7 wx) (fun _ v9 _ => L.length - (intOf v9).toNat)
            case atStart => exact ⟨0, Nat.zero_le _, rfl, OwnN.nil _ _ _ _ _, Below.refl _ _⟩
            case round =>
              obtain ⟨i, hi, rfl, hown, hb⟩ := hrel
              have HOP := Lib.hid hown
              have HBP := Lib.hid hb
              clear hown hb
              have i0 : (0 : Int) ≤ (i : Int) := by omega
              by_cases hil : i < L.length
              · have j4 : (i : Int) < (p.length : Int) + 1 := by omega
                obtain ⟨b, o, c', hv, _, hel⟩ := (HL8.out.keep HBP.out).at hil
                injection hv with ea eb ec
                subst ea; subst ec
                clear eb
                have HT := Lib.hid (partsL_take L i hil)
                have hpl2 : ((partsL L).take i).length ≤ 4096 := by rw [List.length_take, partsL_len]; omega
                generalize (partsL L).take i = out at *
                generalize L[i] = t at *
                have d0 : wr.cell? ⟨b, o + i * 1 + 0, none⟩ = some (.string ⟨t.toArray⟩) := hel 0 _ rfl
                rw [Nat.mul_one, Nat.add_zero] at d0
                have HLL := Lib.hid hLl
                have hsz2 := HBP.out.size
                clear hel hLl
                go_wp2_with (at_builtin; go_loud (refine append_new (enc := encPt) (k := 3) (w := wr) (by rfl) (.tmp 45) (.tmp 54) 22 40 (.agg #[.int .i64 0, .int .i64 0, .string ByteArray.empty]) 32 (by rfl) Try.underlying22 info_part13 (by rfl) (by decide) encPt_ok w7.heap.size _ out ⟨(i : Int), (p.length : Int) + 1, t⟩ (by rfl) HOP.out (by rfl) (by omega) (by unfold maxLen; omega) hsz2 _ (by rfl) ?_; intro v9 w9 hown9 ht9; have HO9 := Lib.hid hown9; have HB9 := Lib.hid (HBP.out.trans ht9.bel); clear hown9 ht9))
                go_roundw
                case rel => exact ⟨i + 1, hil, by go_num, by rw [HT.out, ← HLL.out]; exact HO9.out, HB9.out⟩
                case measure => simp [intOf]; omega
              · have j4 : ¬ (i : Int) < (p.length : Int) + 1 := by omega
                rw [List.take_of_length_le (by rw [partsL_len]; omega)] at HOP
                have HBF := Lib.hid (HB7.out.trans (HBP.out.mono HB7.out.size))
                have HOF := Lib.hid (HOP.out.mono HB7.out.size)
                go_wp2_with fail
                go_ret2
                exact ⟨_, by rw [HEF.out]; rfl, by rw [HPL.out]; exact HOF.out, HBF.out⟩
          · have j3 : (4096 : Int) < (p.length : Int) + 1 := by omega
            have HE7 := Lib.hid (HE.out.trans (if_pos (by rw [HCS.out, List.length_append, List.length_singleton]; omega)))
            have HP7 := Lib.hid (HP.out.trans (by rw [if_pos (by rw [HE7.out]; decide)]))
            go_wp2_with (at_builtin; go_loud (refine append_new (enc := encTx) (k := 1) (w := w5) (by rfl) (.tmp 32) (.tmp 34) 57 9 (.string ByteArray.empty) 16 (by rfl) Try.underlying57 info_str13 (by rfl) (by decide) encTx_ok w.heap.size _ p r (by rfl) HO.out (by rfl) (by omega) (by unfold maxLen; omega) hsz _ (by rfl) ?_; intro v7 w7 hown7 ht7; obtain ⟨sa, sc, hv7, _⟩ := (OwnN.row encTx_ok hown7).slice; rw [List.length_append, List.length_singleton] at hv7; subst hv7; have HO7 := Lib.hid hown7; have HB7 := Lib.hid (HB.out.trans ht7.bel); clear hown7 ht7))
            go_ret2
            exact ⟨_, by rw [HE7.out]; rfl, by rw [HP7.out]; exact OwnN.nil _ _ _ _ _, HB7.out⟩
set_option maxRecDepth 100000 in
set_option maxHeartbeats 2000000 in
theorem refParts13_same (u v : Value) (l : List PartD) (w : World) {N M : Nat → Prop} (hu : RowN encPt 3 N w u l) (hv : RowN encPt 3 M w v l) (hl : l.length ≤ 140737488351232) :
    Calls Try.prog 12 #[u, v] w fun e w' => e = .returned (.bool true) ∧ Below w.heap.size w w' := by
  have HU := Lib.hid hu
  have HV := Lib.hid hv
  obtain ⟨ua, uc, hu2, _⟩ := hu.slice
  obtain ⟨va, vc, hv2, _⟩ := hv.slice
  subst hu2; subst hv2
  clear hu hv
  have q0 : ((l.length : Int) != (l.length : Int)) = false := by simp
  go_enter Try.func12, Try.ntmps12
  go_wp2_with fail
  go_loopw [5] (fun v5 wr => ∃ i : Nat, i ≤ l.length ∧ v5 = .int .i64 (i : Nat) ∧ Below w.heap.size w wr) (fun v5 _ => l.length - (intOf v5).toNat)
  case atStart => exact ⟨0, Nat.zero_le _, rfl, Below.refl _ _⟩
  case round =>
    obtain ⟨i, hi, rfl, hb⟩ := hrel
    have HB := Lib.hid hb
    clear hb
    have i0 : (0 : Int) ≤ (i : Int) := by omega
    by_cases hlt : i < l.length
    · have j1 : (i : Int) < (l.length : Int) := by omega
      obtain ⟨b, o, c', hv, hn, hel⟩ := HU.out.at hlt
      injection hv with ea eb ec
      subst ea; subst ec
      clear eb
      obtain ⟨b', o', c', hv, hn', hel'⟩ := HV.out.at hlt
      injection hv with ea eb ec
      subst ea; subst ec
      clear eb
      generalize l[i] = x at *
      obtain ⟨xg, xb, xm⟩ := x
      have CX := fun (q : Addr) (y : Value) (hq : w.cell? q = some y) => (HB.out.cell (p := q) (World.block_lt_of_cell? w _ hq)).trans hq
      have d0 := CX _ _ (hel 0 _ rfl)
      have d1 := CX _ _ (hel 1 _ rfl)
      have d2 := CX _ _ (hel 2 _ rfl)
      have f0 := CX _ _ (hel' 0 _ rfl)
      have f1 := CX _ _ (hel' 1 _ rfl)
      have f2 := CX _ _ (hel' 2 _ rfl)
      rw [Nat.add_zero] at d0 f0
      dsimp only at d0 d1 d2 f0 f1 f2
      clear hel hel' CX
      go_wp2_with fail
      go_quiet (fail)
      have HB2 := Lib.hid (HB.out.trans ((Below_drewN (Below.refl wr.heap.size wr) nq).mono HB.out.size))
      go_wp2_with fail
      go_roundw
      case rel => exact ⟨i + 1, hlt, by go_num, HB2.out⟩
      case measure => simp [intOf]; omega
    · have j1 : ¬ (i : Int) < (l.length : Int) := by omega
      go_wp2_with fail
      go_ret
      exact ⟨rfl, HB.out⟩
end Go.Proofs.Ytiknfohadnjkiaa
