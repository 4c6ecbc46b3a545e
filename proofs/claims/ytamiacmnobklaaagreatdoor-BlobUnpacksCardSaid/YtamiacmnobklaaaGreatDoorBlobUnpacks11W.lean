/- The walk of BlobUnpacks: of any bytes just the payloads are kept that are found there, each once. -/
import Derived.Test.YtamiacmnobklaaaGreatDoorArX
import Derived.Test.YtamiacmnobklaaaGreatDoorBldShelf
import Derived.Test.YtamiacmnobklaaaGreatDoorB1X
import Derived.Test.YtamiacmnobklaaaGreatDoorLwX
import Derived.Test.YtamiacmnobklaaaGreatDoorB2X
import Derived.Test.YtamiacmnobklaaaGreatDoorSnX
import Derived.Test.YtamiacmnobklaaaGreatDoorBookW
import Derived.Test.YtamiacmnobklaaaGreatDoorMpX
import Derived.Test.YtamiacmnobklaaaGreatDoorCdX
import Derived.Test.YtamiacmnobklaaaGreatDoorCrX
import Derived.Test.YtamiacmnobklaaaGreatDoorFtX
import Derived.Test.YtamiacmnobklaaaGreatDoorFrame
import Derived.Test.YtamiacmnobklaaaGreatDoorFrmShelf
import Derived.Test.YtamiacmnobklaaaGreatDoorGen
import Derived.Test.YtamiacmnobklaaaGreatDoorInfos
import Derived.Test.YtamiacmnobklaaaGreatDoorItX
import Derived.Test.YtamiacmnobklaaaGreatDoorPtX
import Derived.Test.YtamiacmnobklaaaGreatDoorMarkMath
import Derived.Test.YtamiacmnobklaaaGreatDoorOwnL
import Derived.Test.YtamiacmnobklaaaGreatDoorPthX
import Derived.Test.YtamiacmnobklaaaGreatDoorProg
import Derived.Test.YtamiacmnobklaaaGreatDoorRiX
import Derived.Test.YtamiacmnobklaaaGreatDoorRefMatchW9
import Derived.Test.YtamiacmnobklaaaGreatDoorRefOfTW
import Derived.Test.YtamiacmnobklaaaGreatDoorRefReadW
import Derived.Test.YtamiacmnobklaaaGreatDoorRfX
import Derived.Test.YtamiacmnobklaaaGreatDoorRefScanW
import Derived.Test.YtamiacmnobklaaaGreatDoorRowN
import Derived.Test.YtamiacmnobklaaaGreatDoorRows
import Derived.Test.YtamiacmnobklaaaGreatDoorShelf
import Derived.Test.YtamiacmnobklaaaGreatDoorSoX
import Derived.Test.YtamiacmnobklaaaGreatDoorTmX
import Derived.Test.YtamiacmnobklaaaGreatDoorSmX
import Derived.Test.YtamiacmnobklaaaGreatDoorSumsFW
import Derived.Test.YtamiacmnobklaaaGreatDoorTreeMath
import Derived.BigQuiet
import Derived.BigRegion
import Derived.Deep.AppendLies
import Derived.Deep.Cut
import Derived.Deep.CutRange
import Derived.Deep.DeepCutAuto
import Derived.Deep.Onto
import Derived.Deep.QuietTactic
import Derived.Deep.RegionHeld3
import Derived.Deep.RegionLaw
import Derived.Deep.Slices
import Derived.Deep.Strs
import Derived.IntWalk
import Derived.Laws.BitsAllLaws
import Derived.Laws.Externs
import Derived.Laws.OwnMore
import Derived.Laws.RangeAny
import Derived.Laws.Rows
import Derived.Laws.Tables
import Derived.Lib.AppendStr
import Derived.Lib.Builder
import Derived.Lib.Hide
import Derived.Lib.SlicesS
import Derived.Lib.SmallJoins
import Derived.Lib.Strings
import Derived.Lib.TrailingZeros
import Derived.Lib.Walk
import Derived.LoopTactic
import Derived.Outline
import Derived.ProofKit
import Derived.Shelf.Strings.SplitCore
import Derived.Sort.OwnSorted
import Derived.StillTail
import Derived.StillTailTactics
import Derived.WalkKit
import Derived.WalkLawsBesides
import Derived.WalkSpells
set_option linter.unusedVariables false
namespace Go.Proofs.YtamiacmnobklaaaGreatDoor
open Go.RowKit

theorem flatB_encT (l : List Txt) : flatN encZB l = l.map encT := by
  induction l with
  | nil => rfl
  | cons x r ih => rw [flatN_cons, ih]; rfl
theorem ownB_of {w : World} {base : Nat} {e : TypeId} {v : Value} {xs : List Txt} (h : OwnL encT w base e v xs) : OwnN encZB 1 w base e v xs := by
  unfold OwnN
  rw [flatB_encT]
  exact h
section
variable {w0 w w' : World} {pw pb p bm pp : Nat} {N : Nat → Prop} {S : List Txt} {T : List Ent} {Lc : List (List FileD)} {RL PL : List Txt} {v6 v7 : Value} {K : Nat}
theorem EW.put6 (h : EW w0 w pw pb p bm pp N S T Lc RL PL v6 v7 K) {v : Value} {xs : List Txt} (hb : Below w.heap.size w w') (ho : OwnN encZB 1 w' w.heap.size 9 v xs) : EW w0 w' pw pb p bm pp N S T Lc xs PL v v7 K := by
  have h2 := h.new hb
  refine ⟨h2.bl, h2.wb, ho.mono h.bel.size, h2.o7, fun g hg => ?_, h2.d7, h2.nn, h2.nw, h2.bmw, h2.lo, h2.bel⟩
  have hl := (ho.lt hg).1
  exact ⟨fun n => by have := h.bl.bw.blob.lt.2 g n; omega, fun e => by have := h.bl.bw.id.lt.2; omega, fun c => by have := (h.o7.lt c).2.1; omega⟩
theorem EW.el6 {a : Addr} {c : Nat} (h : EW w0 w pw pb p bm pp N S T Lc RL PL (.slice (some ⟨a.block, a.off, none⟩) RL.length c) v7 K) {i : Nat} (hi : i < RL.length) : w.cell? ⟨a.block, a.off + i, none⟩ = some (.string ⟨RL[i].toArray⟩) := by
  obtain ⟨g, o, c', hv, hn, hel⟩ := (OwnN.row encZB_ok h.o6).at hi
  injection hv with ea eb ec
  injection ea with ea
  injection ea with e1 e2 e3
  have := hel 0 _ rfl
  rw [Nat.mul_one, Nat.add_zero, ← e1, ← e2] at this
  exact this
theorem EW.mono (h : EW w0 w pw pb p bm pp N S T Lc RL PL v6 v7 K) {J : Nat} (hJ : K ≤ J) : EW w0 w pw pb p bm pp N S T Lc RL PL v6 v7 J :=
  ⟨h.bl.mono hJ, h.wb, h.o6, h.o7, h.d6, h.d7, h.nn, h.nw, h.bmw, h.lo, h.bel⟩
end
set_option maxRecDepth 100000 in
set_option maxHeartbeats 4000000 in
theorem blobUnpacks_walk (s0 : List UInt8) (hs0 : s0.length ≤ 140737488351232) (w : World) (ht : Tab w) (hT : BTab w) :
    Calls Tryz.prog 6 #[.string ⟨s0.toArray⟩] w fun e w' => e = .returned (.bool true) ∧ Below w.heap.size w w' := by
  have SD := Lib.hid (show (⟨s0.toArray⟩ : ByteArray).size = s0.length from rfl)
  have HT := Lib.hid ht
  have HBT := Lib.hid hT
  clear ht hT
  obtain ⟨s, hsl, hcase⟩ : ∃ s : Txt, s.length ≤ 2000 ∧ ((¬ (2000 : Int) < (s0.length : Int) ∧ s = s0) ∨ ((2000 : Int) < (s0.length : Int) ∧ (⟨s0.toArray⟩ : ByteArray).extract 0 2000 = ⟨s.toArray⟩)) := by
    by_cases h : 2000 < s0.length
    · exact ⟨s0.take 2000, by rw [List.length_take]; omega, .inr ⟨by omega, take_toArray s0 2000⟩⟩
    · exact ⟨s0, by omega, .inl ⟨by omega, rfl⟩⟩
  go_enter Tryz.func6, Tryz.ntmps6
  rcases hcase with ⟨j0, hq⟩ | ⟨j0, hq⟩
  all_goals
    first | subst hq | skip
    go_wp2_with fail
    refine (fresh_any _).mono ?_
    rintro e w1 ⟨pw, pb, p, bm, pp, N0, rfl, hf⟩
    have HE1 := Lib.hid (EW.start hf)
    clear hf
    have RS := Lib.hid (refScan_go s w1 (by omega))
    obtain ⟨hxl, hxs⟩ := scanS_len s
    have UP := fun X (hX : Below w.heap.size w X) (h : BL X pb p bm N0 [] [] [] 0) => blUnpack_any X pb p bm N0 [] [] [] 0 s first_is h (by omega) (by omega) (HT.out.below hX) (HBT.out.below hX) (Nat.lt_of_lt_of_le HBT.out.1 hX.size)
    have UI := Lib.hid (un_inv (scanS s).1 [] [] 0 [] (TS.nil _) TOk.nil (by simp; omega) (fun x hx => by have := hxs x hx; omega) (fun u => by rw [cnt_nil]; rfl) rfl rfl)
    have OM := Lib.hid (once_mem (scanS s).1 [])
    generalize (scanS s).1 = xs at *
    generalize (scanS s).2.1 = na at *
    generalize (scanS s).2.2 = nb at *
    have UP := Lib.hid UP
    have HXS := Lib.hid (show ∀ x ∈ xs, x.length ≤ 2000 from fun x hx => by have := hxs x hx; omega)
    clear hxs
    have hxl2 : xs.length ≤ 2000 := by omega
    go_wp2_with fail
    refine RS.out.mono ?_
    rintro e w2 ⟨v2, rfl, ho2, hb2⟩
    have HE2 := Lib.hid (HE1.out.put6 hb2 (ownB_of ho2))
    obtain ⟨oa, oc, hv2, _⟩ := (OwnN.row encZB_ok HE2.out.o6).slice
    subst hv2
    clear ho2 hb2 RS HE1
    have c0 := HE2.out.wb.c0
    have UP2 := Lib.hid (UP.out w2 HE2.out.bel HE2.out.bl)
    clear UP
    go_wp2_with fail
    refine UP2.out.mono ?_
    rintro e w3 ⟨n, rfl, N3, S3, T3, hfo, h3, t3⟩
    have hui := UI.out
    rw [hfo] at hui
    obtain ⟨u1, u2, u3⟩ := hui
    dsimp only at u1 u2 u3
    have HE3 := Lib.hid ((HE2.out.turn h3 t3).mono (show 0 + 2 * xs.length ≤ 4000 by omega))
    have HC := Lib.hid u1
    have hnl := once_len xs []
    rw [u3] at hnl
    have HTL := Lib.hid u2
    have HOL := Lib.hid u3
    have hn2 : n ≤ 2000 := by simp at hnl; omega
    clear UP2 UI hfo h3 t3 u1 u2 u3 c0 HE2 hnl hxl hsl j0
    go_wp2_with fail
    go_loopw [10, 11] (fun v10 v11 wr => ∃ (i : Nat) (S : List Txt), i ≤ xs.length ∧ v11 = .int .i64 (i : Nat) ∧ EW w wr pw pb p bm pp N3 S T3 [] xs ((xs.take i).foldl onceStep []) (.slice oa xs.length oc) v10 (4000 + i) ∧ (∀ u, cntE S T3 u = if u ∈ xs.foldl onceStep [] then 1 else 0)) (fun _ v11 _ => xs.length - (intOf v11).toNat)
    case atStart => exact ⟨0, S3, Nat.zero_le _, rfl, HE3.out, HC.out⟩
    case round =>
      clear HE3 HC
      obtain ⟨i, S, hi, rfl, hew, hcn⟩ := hrel
      have HE := Lib.hid hew
      have HC := Lib.hid hcn
      clear hew hcn
      have i0 : (0 : Int) ≤ (i : Int) := by omega
      by_cases hlt : i < xs.length
      · have j1 : (i : Int) < (xs.length : Int) := by omega
        obtain ⟨g, o, c', hv, hn, hel⟩ := (OwnN.row encZB_ok HE.out.o6).at hlt
        injection hv with ea eb ec
        subst ea; subst ec
        clear eb
        have HXI := Lib.hid (show xs[i] ∈ xs.foldl onceStep [] from (OM.out _).2 (.inr (List.getElem_mem hlt)))
        have HFO := Lib.hid (show (xs.take (i + 1)).foldl onceStep [] = onceStep ((xs.take i).foldl onceStep []) xs[i] by
          rw [List.take_succ_eq_append_getElem hlt, List.foldl_append]; rfl)
        have hal := once_len (xs.take i) []
        have hxs32 : xs[i].length ≤ 2000 := HXS.out _ (List.getElem_mem hlt)
        generalize (xs.take i).foldl onceStep [] = A at *
        obtain ⟨x, hx⟩ : ∃ x, x = xs[i] := ⟨_, rfl⟩
        rw [← hx] at HXI HFO hxs32 hel
        have HXE := Lib.hid hx.symm
        clear hx
        have hal2 : A.length ≤ 2000 := by
          rw [List.length_take] at hal
          simp at hal
          omega
        have d0 : wr.cell? ⟨g, o + i * 1 + 0, none⟩ = some (.string ⟨x.toArray⟩) := hel 0 _ rfl
        rw [Nat.mul_one, Nat.add_zero] at d0
        have HGL := Lib.hid (World.block_lt_of_cell? wr _ d0)
        clear hel hn hal
        obtain ⟨oa7, oc7, hv7, _⟩ := (OwnN.row encZB_ok HE.out.o7).slice
        subst hv7
        go_wp2_with fail
        go_loopw [12, 13] (fun v12 v13 wq => ∃ (k : Nat), k ≤ A.length ∧ v12 = .bool (decide (x ∈ A.take k)) ∧ v13 = .int .i64 (k : Nat) ∧ Below wr.heap.size wr wq) (fun _ v13 _ => A.length - (intOf v13).toNat)
        case atStart => exact ⟨0, Nat.zero_le _, by simp, rfl, Below.refl _ _⟩
        case round =>
          obtain ⟨k, hk, rfl, rfl, hbq⟩ := hrel
          have HEQ := Lib.hid (HE.out.new hbq)
          have HBQ := Lib.hid hbq
          have d0q := (hbq.cell (p := ⟨g, o + i, none⟩) HGL.out).trans d0
          clear hbq
          have k0 : (0 : Int) ≤ (k : Int) := by omega
          by_cases hkl : k < A.length
          · have j2 : (k : Int) < (A.length : Int) := by omega
            obtain ⟨g7, o7, c7, hv, hn, hel⟩ := (OwnN.row encZB_ok HEQ.out.o7).at hkl
            injection hv with ea eb ec
            subst ea; subst ec
            clear eb
            have HTK := Lib.hid (show A.take (k + 1) = A.take k ++ [A[k]] from by rw [List.take_succ_eq_append_getElem hkl])
            generalize A[k] = y at *
            have e0 : wr.cell? ⟨g7, o7 + k * 1 + 0, none⟩ = some (.string ⟨y.toArray⟩) := hel 0 _ rfl
            rw [Nat.mul_one, Nat.add_zero] at e0
            clear hel hn
            by_cases hm : x ∈ A.take k
            · have q0 : decide (x ∈ A.take k) = true := by simp [hm]
              rw [q0]
              have HN := Lib.hid (show decide (x ∈ A.take (k + 1)) = true by rw [HTK.out]; simp [hm])
              clear hm q0
              go_wp2_with fail
              go_quiet (fail)
              have HBN := Lib.hid (HBQ.out.trans ((Below_drewN (Below.refl wr.heap.size wr) nq).mono HBQ.out.size))
              clear HEQ HBQ d0q e0
              generalize wr.drewN nq = w9 at *
              go_wp2_with fail
              go_roundw
              case rel => exact ⟨k + 1, hkl, by rw [HN.out], by go_num, HBN.out⟩
              case measure => simp [intOf]; omega
            · have q0 : decide (x ∈ A.take k) = false := by simp [hm]
              rw [q0]
              have HN := Lib.hid (show decide (x ∈ A.take (k + 1)) = (y == x) by
                rw [HTK.out]
                by_cases e : y = x
                · subst e; simp
                · have e2 : ¬ x = y := fun c => e c.symm
                  simp [hm, e, e2])
              clear hm q0
              go_wp2_with fail
              go_quiet (fail)
              have HBN := Lib.hid (HBQ.out.trans ((Below_drewN (Below.refl wr.heap.size wr) nq).mono HBQ.out.size))
              clear HEQ HBQ d0q e0
              generalize wr.drewN nq = w9 at *
              go_wp2_with fail
              go_roundw
              case rel => exact ⟨k + 1, hkl, by rw [HN.out], by go_num, HBN.out⟩
              case measure => simp [intOf]; omega
          · have j2 : ¬ (k : Int) < (A.length : Int) := by omega
            rw [List.take_of_length_le (show A.length ≤ k by omega)]
            by_cases hm : x ∈ A
            · have q0 : decide (x ∈ A) = true := by simp [hm]
              rw [q0]
              have HE7 := HEQ
              have HNF := Lib.hid (HFO.out.trans (show onceStep A x = A by unfold onceStep; rw [if_pos hm]))
              clear hm q0 HEQ HE
              go_wp2_with fail
              have HED := Lib.hid (HE7.out.new (Below_drew (Below.refl _ _)))
              have HR1 := Lib.hid (show cntE (markS S x) T3 x = 1 by rw [cnt_mark HED.out.bl.ts (by have := HED.out.bl.sl; omega), HC.out, if_pos HXI.out])
              have c0 := HE7.out.wb.c0
              have c1 := HE7.out.wb.c1
              have d0k : wr.cell? ⟨g, o + i, none⟩ = some (.string ⟨x.toArray⟩) := d0q
              have MK := Lib.hid (blMark_any _ pb p bm N3 S T3 [] (4000 + i) x HED.out.bl (by omega) (by omega))
              have RF := Lib.hid (fun X h => by
                have h5 := blRefs_any X pb p bm N3 (markS S x) T3 [] (4000 + i + 1) x h (new_mark _ _)
                rw [mkS_mark x (.inr rfl), HR1.out] at h5
                exact h5)
              generalize mkS S x = mk at *
              clear HE7
              go_region_held3 (fun w' => w'.cell? ⟨pw, 0, none⟩ = some (.pointer (some ⟨pb, 0, none⟩)) ∧ w'.cell? ⟨pw, 1, none⟩ = some (.pointer (some ⟨p, 0, none⟩)) ∧ w'.cell? ⟨g, o + i, none⟩ = some (.string ⟨x.toArray⟩))
                (first | with_reducible exact ⟨by assumption, by assumption, by assumption⟩ | go_keep)
                (first
                  | (go_at_call 20; go_split_ands; refine MK.out.mono ?_; rintro e w5 ⟨rfl, h3, t3, k3⟩; have HE5 := Lib.hid (HED.out.turn h3 t3); have c05 := HE5.out.wb.c0; have c15 := HE5.out.wb.c1; have d05 : w5.cell? ⟨g, o + i, none⟩ = some (.string ⟨x.toArray⟩) := (HE5.out.el6 (a := ⟨g, o, none⟩) hlt).trans (by rw [HXE.out]); have HC5 := Lib.hid (fun u => (k3 u).trans (HC.out u)); clear h3 t3 k3)
                  | (go_at_call 23; go_split_ands; refine (RF.out _ HE5.out.bl).mono ?_; rintro e w6 ⟨rfl, ew⟩; subst ew))
              go_split_ands
              go_wp2_with fail
              go_roundw
              case rel => exact ⟨i + 1, markS S x, hlt, by go_num, by rw [HNF.out]; exact HE5.out, HC5.out⟩
              case measure => simp [intOf]; omega
            · have q0 : decide (x ∈ A) = false := by simp [hm]
              rw [q0]
              go_wp2_with (at_builtin; go_loud (refine append_new (enc := encZB) (k := 1) (w := wr) (by rfl) (.tmp 62) (.tmp 67) 54 9 (.string ByteArray.empty) 16 (by rfl) Tryz.underlying54 info_strB (by rfl) (by decide) encZB_ok w.heap.size _ A x (by rfl) HEQ.out.o7 (by rfl) (by omega) (by unfold maxLen; omega) HEQ.out.bel.size _ (by rfl) ?_; intro v7 w7 hown7 ht7; have HE7 := Lib.hid (HEQ.out.push7 hown7 ht7); have d07 : w7.cell? ⟨g, o + i, none⟩ = some (.string ⟨x.toArray⟩) := (HE7.out.el6 (a := ⟨g, o, none⟩) hlt).trans (by rw [HXE.out]); clear hown7 ht7))
              have HNF := Lib.hid (HFO.out.trans (show onceStep A x = A ++ [x] by unfold onceStep; rw [if_neg hm]))
              clear hm q0 HEQ HE
              have HED := Lib.hid (HE7.out.new (Below_drew (Below.refl _ _)))
              have HR1 := Lib.hid (show cntE (markS S x) T3 x = 1 by rw [cnt_mark HED.out.bl.ts (by have := HED.out.bl.sl; omega), HC.out, if_pos HXI.out])
              have c0 := HE7.out.wb.c0
              have c1 := HE7.out.wb.c1
              have d0k : w7.cell? ⟨g, o + i, none⟩ = some (.string ⟨x.toArray⟩) := d07
              have MK := Lib.hid (blMark_any _ pb p bm N3 S T3 [] (4000 + i) x HED.out.bl (by omega) (by omega))
              have RF := Lib.hid (fun X h => by
                have h5 := blRefs_any X pb p bm N3 (markS S x) T3 [] (4000 + i + 1) x h (new_mark _ _)
                rw [mkS_mark x (.inr rfl), HR1.out] at h5
                exact h5)
              generalize mkS S x = mk at *
              clear HE7
              go_region_held3 (fun w' => w'.cell? ⟨pw, 0, none⟩ = some (.pointer (some ⟨pb, 0, none⟩)) ∧ w'.cell? ⟨pw, 1, none⟩ = some (.pointer (some ⟨p, 0, none⟩)) ∧ w'.cell? ⟨g, o + i, none⟩ = some (.string ⟨x.toArray⟩))
                (first | with_reducible exact ⟨by assumption, by assumption, by assumption⟩ | go_keep)
                (first
                  | (go_at_call 20; go_split_ands; refine MK.out.mono ?_; rintro e w5 ⟨rfl, h3, t3, k3⟩; have HE5 := Lib.hid (HED.out.turn h3 t3); have c05 := HE5.out.wb.c0; have c15 := HE5.out.wb.c1; have d05 : w5.cell? ⟨g, o + i, none⟩ = some (.string ⟨x.toArray⟩) := (HE5.out.el6 (a := ⟨g, o, none⟩) hlt).trans (by rw [HXE.out]); have HC5 := Lib.hid (fun u => (k3 u).trans (HC.out u)); clear h3 t3 k3)
                  | (go_at_call 23; go_split_ands; refine (RF.out _ HE5.out.bl).mono ?_; rintro e w6 ⟨rfl, ew⟩; subst ew))
              go_split_ands
              go_wp2_with fail
              go_roundw
              case rel => exact ⟨i + 1, markS S x, hlt, by go_num, by rw [HNF.out]; exact HE5.out, HC5.out⟩
              case measure => simp [intOf]; omega
      · have j1 : ¬ (i : Int) < (xs.length : Int) := by omega
        obtain rfl : i = xs.length := by omega
        rw [List.take_length] at HE
        obtain ⟨oa7, oc7, hv7, _⟩ := (OwnN.row encZB_ok HE.out.o7).slice
        subst hv7
        rw [HOL.out]
        have c0 := HE.out.wb.c0
        have BC := Lib.hid (bCount_any wr pb p bm N3 S T3 _ HE.out.bl.bw)
        rw [HTL.out] at BC
        go_wp2_with fail
        refine BC.out.mono ?_
        rintro e w5 ⟨rfl, rfl⟩
        go_wp2_with fail
        refine (awake11_any _).mono ?_
        rintro e w6 ⟨rfl, hb6⟩
        have HB := Lib.hid (HE.out.bel.trans (hb6.mono HE.out.bel.size))
        go_wp2_with fail
        go_ret
        exact ⟨rfl, HB.out⟩
end Go.Proofs.YtamiacmnobklaaaGreatDoor
