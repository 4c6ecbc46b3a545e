/- The document's Pattern. -/
import Derived.Test.YtkfkfpfnpfpkaaaDoorFrame
import Derived.Test.YtkfkfpfnpfpkaaaDoorGen
import Derived.Test.YtkfkfpfnpfpkaaaDoorMarkMath
import Derived.Test.YtkfkfpfnpfpkaaaDoorMatchMath
import Derived.Test.YtkfkfpfnpfpkaaaDoorOwnL
import Derived.Test.YtkfkfpfnpfpkaaaDoorReadMath
import Derived.Test.YtkfkfpfnpfpkaaaDoorReadW
import Derived.Test.YtkfkfpfnpfpkaaaDoorRefNamesW
import Derived.Test.YtkfkfpfnpfpkaaaDoorRowN
import Derived.Test.YtkfkfpfnpfpkaaaDoorRows
import Derived.Test.YtkfkfpfnpfpkaaaDoorTreeMath
import Derived.BigQuiet
import Derived.Deep.QuietTactic
import Derived.Laws.IdiomStrings
import Derived.Lib.Hide
import Derived.WalkKit
import Derived.WalkLawsBesides
import Derived.WalkSpells
set_option linter.unusedVariables false
namespace Go.Proofs.YtkfkfpfnpfpkaaaDoor
open Go.RowKit

/-- A row of bytes whose cells may be written. -/
def RowM (w : World) (base g cap : Nat) (l : Txt) : Prop := base ≤ g ∧ l.length ≤ cap ∧ ∃ C fr, w.heap[g]? = some (.cells C 5 fr) ∧ l.length ≤ fr.1 ∧ ∀ j (hj : j < l.length), C[j]? = some (.int .u8 ((l[j].toNat : Nat) : Int))
theorem RowM.cell {w : World} {base g cap : Nat} {l : Txt} (h : RowM w base g cap l) (j : Nat) (hj : j < l.length) : w.cell? ⟨g, j, none⟩ = some (.int .u8 ((l[j].toNat : Nat) : Int)) := by
  obtain ⟨_, _, C, fr, hg, _, hc⟩ := h
  rw [cell_of_row _ _ _ _ _ _ hg]
  exact hc j hj
theorem RowM.frozen {w : World} {base g cap : Nat} {l : Txt} (h : RowM w base g cap l) (j : Nat) (hj : j < l.length) : w.frozen? ⟨g, j, none⟩ = false := by
  obtain ⟨_, _, C, fr, hg, hf, hc⟩ := h
  simp only [World.frozen?, hg]
  simp
  omega
theorem RowM.set {w : World} {base g cap : Nat} {l : Txt} (h : RowM w base g cap l) (j : Nat) (c : UInt8) : RowM (w.setCell ⟨g, j, none⟩ (.int .u8 ((c.toNat : Nat) : Int))) base g cap (l.set j c) := by
  obtain ⟨h1, h2, C, fr, hg, hf, hc⟩ := h
  refine ⟨h1, by rw [List.length_set]; exact h2, C.setIfInBounds j (.int .u8 ((c.toNat : Nat) : Int)), fr, by simp [World.setCell, Array.getElem?_modify, hg], by rw [List.length_set]; exact hf, fun k hk => ?_⟩
  rw [List.length_set] at hk
  have hk2 := hc k hk
  have hCk : k < C.size := (Array.getElem?_eq_some_iff.1 hk2).1
  rw [Array.getElem?_setIfInBounds]
  by_cases e : j = k
  · subst e
    rw [if_pos rfl, if_pos hCk]
    simp
  · rw [if_neg e, hk2, List.getElem_set_ne e]
theorem RowM.conv (w : World) (l : Txt) (src dst : TypeId) {P : Program} (hs : P.underlying src = some .string) (hd : P.underlying dst = some (.slice 5)) (he : P.underlying 5 = some (.int .u8)) :
    ∃ cap w1, (convert src dst (.string ⟨l.toArray⟩)).run P w = .ok (.slice (some ⟨w.heap.size, 0, none⟩) l.length cap) w1 ∧ RowM w1 w.heap.size w.heap.size cap l ∧ Below w.heap.size w w1 := by
  have h := run_bytes_of_string (P := P) w src dst 5 ⟨l.toArray⟩ hs hd he
  have hge : l.length ≤ grownCap w l.length 0 5 := grownCap_ge w _ _ _
  obtain ⟨C, hC⟩ : ∃ C, C = bytesRow ⟨l.toArray⟩ (grownCap w l.length 0 5) := ⟨_, rfl⟩
  have hsz : C.size = grownCap w l.length 0 5 := by
    rw [hC]
    unfold bytesRow
    show (Array.map _ l.toArray ++ Array.replicate (grownCap w l.length 0 5 - l.length) _).size = _
    simp
    omega
  have hget : ∀ i (hi : i < l.length), C[i]? = some (.int .u8 ((l[i].toNat : Nat) : Int)) := by
    intro i hi
    rw [hC]
    unfold bytesRow
    show (Array.map _ l.toArray ++ Array.replicate (grownCap w l.length 0 5 - l.length) _)[i]? = _
    rw [Array.getElem?_append_left (by simpa using hi)]
    simp [hi]
  have h' : (convert src dst (.string ⟨l.toArray⟩)).run P w = .ok (.slice (some ⟨w.heap.size, 0, none⟩) l.length (grownCap w l.length 0 5)) (w.drew.alloc (.cells C 5 (C.size, C.size + 1))) := by
    rw [hC]
    exact h
  have hh : (w.drew.alloc (.cells C 5 (C.size, C.size + 1))).heap[w.heap.size]? = some (.cells C 5 (C.size, C.size + 1)) := by
    show (w.heap.push _)[w.heap.size]? = _
    simp
  exact ⟨_, _, h', ⟨Nat.le_refl _, hge, C, _, hh, by dsimp only; omega, hget⟩, (Below_drew (Below.refl _ _)).alloc (Nat.le_refl _) _⟩
theorem RowM.str {w : World} {base g cap : Nat} {l : Txt} (h : RowM w base g cap l) (src dst : TypeId) {P : Program} (hs : P.underlying src = some (.slice 5)) (he : P.underlying 5 = some (.int .u8)) (hd : P.underlying dst = some .string) :
    (convert src dst (.slice (some ⟨g, 0, none⟩) l.length cap)).run P w = .ok (.string ⟨l.toArray⟩) w := by
  refine run_convert_bytes_back w src dst 5 ⟨g, 0, none⟩ cap l hs he hd ?_
  intro j hj
  rw [addr_add0]
  exact h.cell j hj
theorem allp_at (l : List Txt) (i : Nat) (h : i < l.length) : (l.drop i).all patOk = (patOk l[i] && (l.drop (i + 1)).all patOk) := by
  rw [List.drop_eq_getElem_cons h]; rfl
theorem pat_step (x : Txt) (k : Nat) (h : k < x.length) : ((x.take k).map patC ++ x.drop k).set k (patC x[k]) = (x.take (k + 1)).map patC ++ x.drop (k + 1) := by
  have hl : ((x.take k).map patC).length = k := by rw [List.length_map, List.length_take]; omega
  rw [List.set_append_right _ _ (by rw [hl]; exact Nat.le_refl _), hl, Nat.sub_self, show x.drop k = x[k] :: x.drop (k + 1) from List.drop_eq_getElem_cons h, List.take_succ_eq_append_getElem h, List.map_append, List.append_assoc]
  rfl
theorem pat_same (x : Txt) (k : Nat) (h : k < x.length) (hc : patC x[k] = x[k]) : (x.take k).map patC ++ x.drop k = (x.take (k + 1)).map patC ++ x.drop (k + 1) := by
  rw [← pat_step x k h, hc]
  have hl : ((x.take k).map patC).length = k := by rw [List.length_map, List.length_take]; omega
  rw [List.set_append_right _ _ (by rw [hl]; exact Nat.le_refl _), hl, Nat.sub_self, List.drop_eq_getElem_cons h]
  rfl
set_option maxRecDepth 100000 in
set_option maxHeartbeats 2000000 in
theorem refPattern_any (s : Txt) (w : World) (hs : s.length ≤ 140737488351232) :
    Calls Tryd.prog 39 #[.string ⟨s.toArray⟩] w fun e w' => e = .returned (.int .i64 (patternS s)) ∧ Below w.heap.size w w' := by
  have SL := Lib.hid (show (⟨s.toArray⟩ : ByteArray).size = s.length from rfl)
  by_cases h : 200 < s.length
  · have j : (200 : Int) < (s.length : Int) := by omega
    have HR := Lib.hid (show patternS s = 4 from if_pos h)
    clear h
    go_enter Tryd.func39, Tryd.ntmps39
    go_wp2_with fail
    go_ret
    exact ⟨by rw [HR.out]; rfl, Below.refl _ _⟩
  · have j : ¬ (200 : Int) < (s.length : Int) := by omega
    have NM := Lib.hid (refNames_any s w (by omega))
    have HR := Lib.hid (show (if ((namesS s).drop 0).all patOk then 0 else 10) = patternS s from (if_neg h).symm)
    have HNL := Lib.hid (namesG_len s [])
    have HNX := Lib.hid (namesG_le s [])
    have HNS := Lib.hid (show namesS s = namesG [] s from rfl)
    rw [← HNS.out] at HNL HNX
    generalize namesS s = nl at *
    generalize patternS s = res at *
    have hsl : s.length ≤ 200 := by omega
    clear h HNS
    go_enter Tryd.func39, Tryd.ntmps39
    go_wp2_with fail
    refine NM.out.mono ?_
    rintro e w1 ⟨v1, rfl, hown, hb1⟩
    have HO := Lib.hid hown
    have HB := Lib.hid hb1
    clear hown hb1 NM
    obtain ⟨va, vm, vc, hv⟩ := own_slice HO.out
    subst hv
    have hvm : vm = nl.length := own_lenV HO.out
    subst hvm
    go_wp2_with fail
    go_loopw [4] (fun v4 wr => ∃ i : Nat, i ≤ nl.length ∧ v4 = .int .i64 i ∧ Hid ((if (nl.drop i).all patOk then (0 : Int) else 10) = res) ∧ Below w1.heap.size w1 wr) (fun v4 _ => nl.length - (intOf v4).toNat)
    case atStart => exact ⟨0, by omega, rfl, HR, Below.refl _ _⟩
    case round =>
      clear HR
      obtain ⟨i, hi, rfl, HR, hbel⟩ := hrel
      have HB2 := Lib.hid hbel
      obtain ⟨wz, rfl⟩ : ∃ wz, wz = wr := ⟨_, rfl⟩
      clear hbel
      have HBW := Lib.hid (HB.out.trans (HB2.out.mono HB.out.size))
      have i0 : (0 : Int) ≤ (i : Int) := by omega
      have hnl := HNL.out
      have nlb : nl.length ≤ 201 := by omega
      by_cases hlt : i < nl.length
      · have j1 : (i : Int) < (nl.length : Int) := by omega
        have HT := Lib.hid (allp_at nl i hlt)
        obtain ⟨g, o, rfl, _, hcell⟩ : ∃ g o, va = some ⟨g, o, none⟩ ∧ w.heap.size ≤ g ∧ w1.cell? ⟨g, o + i, none⟩ = some (strE nl[i]) := by
          obtain ⟨a, cap, hv, hc⟩ := OwnL.row HO.out
          injection hv with e1 e2 e3
          obtain ⟨b, off, e4, hb, hcell⟩ := hc i hlt
          exact ⟨b, off, e1.trans e4, hb, hcell⟩
        have hcr : wz.cell? ⟨g, o + i, none⟩ = some (strE nl[i]) := (HB2.out.cell (p := ⟨g, o + i, none⟩) (World.block_lt_of_cell? w1 _ hcell)).trans hcell
        have hxl := HNX.out nl[i] (List.getElem_mem hlt)
        generalize nl[i] = x at *
        unfold strE at hcr
        have hxb : x.length ≤ 200 := by simp at hxl; omega
        clear hcell hxl
        by_cases hxx : x = [42, 42]
        · have q : (x == [42, 42]) = true := by rw [hxx]; rfl
          have HN := Lib.hid (show (if (nl.drop (i + 1)).all patOk then (0 : Int) else 10) = res by rw [← HR.out, HT.out]; unfold patOk; rw [q, Bool.true_or, Bool.true_and])
          clear HR HT hnl hxx
          go_wp2_with fail
          go_roundw
          case rel => exact ⟨i + 1, by omega, by go_num, HN, HB2.out⟩
          case measure => simp [intOf]; omega
        · have q : (x == [42, 42]) = false := by simp [hxx]
          have HPK := Lib.hid (show patOk x = nameS (x.map patC) by unfold patOk; rw [q, Bool.false_or])
          obtain ⟨cap, w2, hconv, hrow, hb2⟩ := RowM.conv (P := Tryd.prog) wz x 9 82 Tryd.underlying9 Tryd.underlying82 Tryd.underlying5
          have HRW := Lib.hid hrow
          have HB3 := Lib.hid (HB2.out.trans (hb2.mono HB2.out.size))
          have HBN := Lib.hid hb2
          obtain ⟨gb, hgb⟩ : ∃ gb, gb = wz.heap.size := ⟨_, rfl⟩
          have HGB := Lib.hid hgb
          rw [← hgb] at hconv HRW
          clear hrow hb2 hxx hgb
          go_wp2_with fail
          clear hconv
          go_loopw [6] (fun v6 wr => ∃ k : Nat, k ≤ x.length ∧ v6 = .int .i64 k ∧ RowM wr gb gb cap ((x.take k).map patC ++ x.drop k) ∧ Below w1.heap.size w1 wr) (fun v6 _ => x.length - (intOf v6).toNat)
          case atStart => exact ⟨0, by omega, rfl, by simpa using HRW.out, HB3.out⟩
          case round =>
            clear HRW HB3
            obtain ⟨k, hk, rfl, hrow, hbel⟩ := hrel
            have HRW := Lib.hid hrow
            have HB4 := Lib.hid hbel
            clear hrow hbel
            have k0 : (0 : Int) ≤ (k : Int) := by omega
            have HLX := Lib.hid (show ((x.take k).map patC ++ x.drop k).length = x.length by rw [List.length_append, List.length_map, List.length_take, List.length_drop]; omega)
            by_cases hkx : k < x.length
            · have m1 : (k : Int) < (x.length : Int) := by omega
              have hkl : k < ((x.take k).map patC ++ x.drop k).length := by rw [HLX.out]; exact hkx
              have hgetk : ((x.take k).map patC ++ x.drop k)[k] = x[k] := by
                have hl : ((x.take k).map patC).length = k := by rw [List.length_map, List.length_take]; omega
                rw [List.getElem_append_right (by omega)]
                simp only [hl, Nat.sub_self, List.getElem_drop, Nat.add_zero]
              have ck := HRW.out.cell k hkl
              rw [hgetk] at ck
              have fk := HRW.out.frozen k hkl
              by_cases hc : x[k] = 42 ∨ x[k] = 63
              · have HS := Lib.hid (HRW.out.set k 97)
                have HSB := Lib.hid (HB4.out.setCell (p := ⟨gb, k, none⟩) (by show w1.heap.size ≤ gb; rw [HGB.out]; exact HB2.out.size) (.int .u8 97))
                have HPS := Lib.hid (show ((x.take k).map patC ++ x.drop k).set k 97 = (x.take (k + 1)).map patC ++ x.drop (k + 1) by
                  rw [← pat_step x k hkx]; unfold patC; rw [if_pos hc])
                have hq : (((x[k].toNat : Nat) : Int) == 42) = true ∨ ((((x[k].toNat : Nat) : Int) == 42) = false ∧ (((x[k].toNat : Nat) : Int) == 63) = true) := by
                  rcases hc with h | h
                  · left; rw [h]; rfl
                  · right; rw [h]; exact ⟨rfl, rfl⟩
                clear hc hgetk hkl
                generalize x[k] = c at *
                rcases hq with q1 | ⟨q1, q2⟩
                all_goals
                  go_wp2_with fail
                  go_roundw
                  case rel => exact ⟨k + 1, by omega, by go_num, by rw [← HPS.out]; exact HS.out, HSB.out⟩
                  case measure => simp [intOf]; omega
              · have q1 : (((x[k].toNat : Nat) : Int) == 42) = false := by
                  rw [beq_eq_false_iff_ne]; intro h; exact hc (.inl (UInt8.toNat_inj.1 (by show x[k].toNat = 42; omega)))
                have q2 : (((x[k].toNat : Nat) : Int) == 63) = false := by
                  rw [beq_eq_false_iff_ne]; intro h; exact hc (.inr (UInt8.toNat_inj.1 (by show x[k].toNat = 63; omega)))
                have HPS := Lib.hid (pat_same x k hkx (if_neg hc))
                clear hc hgetk hkl
                generalize x[k] = c at *
                go_wp2_with fail
                go_roundw
                case rel => exact ⟨k + 1, by omega, by go_num, by rw [← HPS.out]; exact HRW.out, HB4.out⟩
                case measure => simp [intOf]; omega
            · obtain rfl : k = x.length := by omega
              have m1 : ¬ (x.length : Int) < (x.length : Int) := by omega
              have HY := Lib.hid (show (x.take x.length).map patC ++ x.drop x.length = x.map patC by rw [List.take_length, List.drop_eq_nil_of_le (Nat.le_refl _), List.append_nil])
              rw [HY.out] at HRW
              have cs := HRW.out.str 82 9 (P := Tryd.prog) Tryd.underlying82 Tryd.underlying5 Tryd.underlying9
              rw [List.length_map] at cs
              have NA := Lib.hid (refName_any (x.map patC) wr (by rw [List.length_map]; omega))
              rw [← HPK.out] at NA
              generalize x.map patC = y at *
              clear HLX HY
              by_cases hx : patOk x = true
              · rw [hx] at NA
                have HN := Lib.hid (show (if (nl.drop (i + 1)).all patOk then (0 : Int) else 10) = res by rw [← HR.out, HT.out, hx, Bool.true_and])
                clear HR HT hnl hx HPK
                go_wp2_with fail
                refine NA.out.mono ?_
                rintro e w3 ⟨rfl, rfl⟩
                go_wp2_with fail
                go_roundw
                case rel => exact ⟨i + 1, by omega, by go_num, HN, HB4.out⟩
                case measure => simp [intOf]; omega
              · have hx' : patOk x = false := by simpa using hx
                rw [hx'] at NA
                have HN := Lib.hid (show 10 = res by rw [← HR.out, HT.out, hx', Bool.false_and]; rfl)
                clear HR HT hnl hx hx' HPK
                go_wp2_with fail
                refine NA.out.mono ?_
                rintro e w3 ⟨rfl, rfl⟩
                go_wp2_with fail
                go_ret
                exact ⟨by rw [← HN.out]; rfl, HB.out.trans (HB4.out.mono HB.out.size)⟩
      · have j1 : ¬ (i : Int) < (nl.length : Int) := by omega
        have HN := Lib.hid (show 0 = res by rw [← HR.out, List.drop_eq_nil_of_le (by omega)]; rfl)
        clear HR hnl
        go_wp2_with fail
        go_ret
        exact ⟨by rw [← HN.out]; rfl, HBW.out⟩
end Go.Proofs.YtkfkfpfnpfpkaaaDoor
