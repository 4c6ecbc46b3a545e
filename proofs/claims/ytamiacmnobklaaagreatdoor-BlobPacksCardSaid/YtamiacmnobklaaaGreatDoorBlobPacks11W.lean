/- The walk of BlobPacks: what is packed is found again in other blobs. -/
import Derived.Test.YtamiacmnobklaaaGreatDoorSnX
import Derived.Test.YtamiacmnobklaaaGreatDoorArX
import Derived.Test.YtamiacmnobklaaaGreatDoorBldShelf
import Derived.Test.YtamiacmnobklaaaGreatDoorB1X
import Derived.Test.YtamiacmnobklaaaGreatDoorLwX
import Derived.Test.YtamiacmnobklaaaGreatDoorB2X
import Derived.Test.YtamiacmnobklaaaGreatDoorPkX
import Derived.Test.YtamiacmnobklaaaGreatDoorBookW
import Derived.Test.YtamiacmnobklaaaGreatDoorMpX
import Derived.Test.YtamiacmnobklaaaGreatDoorCrX
import Derived.Test.YtamiacmnobklaaaGreatDoorFtX
import Derived.Test.YtamiacmnobklaaaGreatDoorOnX
import Derived.Test.YtamiacmnobklaaaGreatDoorFrame
import Derived.Test.YtamiacmnobklaaaGreatDoorFrmShelf
import Derived.Test.YtamiacmnobklaaaGreatDoorGen
import Derived.Test.YtamiacmnobklaaaGreatDoorItX
import Derived.Test.YtamiacmnobklaaaGreatDoorIterShelf
import Derived.Test.YtamiacmnobklaaaGreatDoorPtX
import Derived.Test.YtamiacmnobklaaaGreatDoorMarkMath
import Derived.Test.YtamiacmnobklaaaGreatDoorOwnL
import Derived.Test.YtamiacmnobklaaaGreatDoorPthX
import Derived.Test.YtamiacmnobklaaaGreatDoorProg
import Derived.Test.YtamiacmnobklaaaGreatDoorQuietBelow
import Derived.Test.YtamiacmnobklaaaGreatDoorRiX
import Derived.Test.YtamiacmnobklaaaGreatDoorCdX
import Derived.Test.YtamiacmnobklaaaGreatDoorRefOfTW
import Derived.Test.YtamiacmnobklaaaGreatDoorRfX
import Derived.Test.YtamiacmnobklaaaGreatDoorRowN
import Derived.Test.YtamiacmnobklaaaGreatDoorRows
import Derived.Test.YtamiacmnobklaaaGreatDoorShelf
import Derived.Test.YtamiacmnobklaaaGreatDoorSoX
import Derived.Test.YtamiacmnobklaaaGreatDoorTmX
import Derived.Test.YtamiacmnobklaaaGreatDoorSmX
import Derived.Test.YtamiacmnobklaaaGreatDoorSumsFW
import Derived.Test.YtamiacmnobklaaaGreatDoorAwX
import Derived.BigQuiet
import Derived.BigRegion
import Derived.Deep.AppendLies
import Derived.Deep.Cut
import Derived.Deep.CutBlock
import Derived.Deep.CutRange
import Derived.Deep.DeepCutAuto
import Derived.Deep.Onto
import Derived.Deep.QuietTactic
import Derived.Deep.RegionHeld3
import Derived.Deep.RegionLaw
import Derived.Deep.Slices
import Derived.Deep.Strs
import Derived.IntWalk
import Derived.Laws.BitsAllLaws
import Derived.Laws.Externs
import Derived.Laws.IdiomStrings
import Derived.Laws.OwnMore
import Derived.Laws.RangeAny
import Derived.Laws.Rows
import Derived.Laws.Tables
import Derived.Lib.AppendStr
import Derived.Lib.Builder
import Derived.Lib.Hide
import Derived.Lib.SlicesS
import Derived.Lib.SmallJoins
import Derived.Lib.Strings
import Derived.Lib.TrailingZeros
import Derived.Lib.Walk
import Derived.LoopTactic
import Derived.Outline
import Derived.Shelf.Strings.SplitCore
import Derived.Sort.OwnSorted
import Derived.StillTail
import Derived.StillTailTactics
import Derived.WalkKit
import Derived.WalkLawsBesides
import Derived.WalkSpells
set_option linter.unusedVariables false
namespace Go.Proofs.YtamiacmnobklaaaGreatDoor
open Go.RowKit

set_option maxRecDepth 100000 in
set_option maxHeartbeats 8000000 in
theorem blobPacks_walk (v : Value) (ts : List Txt) (s0 : List UInt8) (hs0 : s0.length ≤ 140737488351232) (w : World) (htx : Texts w v ts) (ht : Tab w) (hT : BTab w) :
    Calls Tryz.prog 5 #[v, .string ⟨s0.toArray⟩] w fun e w' => e = .returned (.bool true) ∧ Below w.heap.size w w' := by
  obtain ⟨hrt0, htl0, htn⟩ := texts_row htx
  have HRT := Lib.hid hrt0
  have HTL := Lib.hid htl0
  have SD := Lib.hid (show (⟨s0.toArray⟩ : ByteArray).size = s0.length from rfl)
  have HT := Lib.hid ht
  have HBT := Lib.hid hT
  clear ht hT
  obtain ⟨va, vc, hv, _⟩ := hrt0.slice
  subst hv
  clear hrt0 htl0 htx
  obtain ⟨ns, hnl, hcase⟩ : ∃ ns : List UInt8, ns.length ≤ 100 ∧ ((¬ (100 : Int) < (s0.length : Int) ∧ ns = s0) ∨ ((100 : Int) < (s0.length : Int) ∧ (⟨s0.toArray⟩ : ByteArray).extract 0 100 = ⟨ns.toArray⟩)) := by
    by_cases h : 100 < s0.length
    · exact ⟨s0.take 100, by rw [List.length_take]; omega, .inr ⟨by omega, take_toArray s0 100⟩⟩
    · exact ⟨s0, by omega, .inl ⟨by omega, rfl⟩⟩
  have HCS := Lib.hid hcase
  clear hcase
  go_enter Tryz.func5, Tryz.ntmps5
  go_wp2_with fail
  refine (fresh_any _).mono ?_
  rintro e w1 ⟨pw, pb, p, bm, pp, N0, rfl, hf⟩
  have HE1 := Lib.hid (EW.start hf)
  clear hf
  go_wp2_with fail
  go_loopw [6, 7] (fun v6 v7 wr => ∃ (i : Nat) (N : Nat → Prop) (S : List Txt) (T : List Ent) (A : List Txt), i ≤ ts.length ∧ i ≤ 20 ∧ v7 = .int .i64 (i : Nat) ∧ EW w wr pw pb p bm pp N S T [] A [] v6 (.slice none 0 0) i ∧ PK S T A ∧ A.length ≤ i) (fun _ v7 _ => 20 - (intOf v7).toNat)
  case atStart => exact ⟨0, N0, [], [], [], Nat.zero_le _, by omega, rfl, HE1.out, ⟨fun u => (by rw [cnt_nil]; simp), List.nodup_nil, fun u hu => (by cases hu)⟩, Nat.le_refl _⟩
  case round =>
    clear HE1
    obtain ⟨i, N, S, T, A, hi, hi20, rfl, hew, hpk, hal⟩ := hrel
    have HE := Lib.hid hew
    have HPK := Lib.hid hpk
    clear hew hpk
    have i0 : (0 : Int) ≤ (i : Int) := by omega
    obtain ⟨oa6, oc6, hv6, _⟩ := (OwnN.row encZB_ok HE.out.o6).slice
    subst hv6
    by_cases hlt : i < ts.length ∧ i < 20
    · obtain ⟨hlt1, hlt2⟩ := hlt
      have j1 : (i : Int) < (ts.length : Int) := by omega
      have j2 : (i : Int) < 20 := by omega
      obtain ⟨g, o, c', hv, hn, hel⟩ := HRT.out.at hlt1
      injection hv with ea eb ec
      subst ea; subst ec
      clear eb
      have hel1 := hel.below HE.out.bel hn
      have htl1 := HTL.out _ (List.getElem_mem hlt1)
      generalize ts[i] = x at *
      have d0 : wr.cell? ⟨g, o + i * 1 + 0, none⟩ = some (.string ⟨x.toArray⟩) := hel1 0 _ rfl
      rw [Nat.mul_one, Nat.add_zero] at d0
      have CT := Lib.hid (fun X => cutB_any x X htl1)
      have hyl := cutT_len x
      generalize cutT x = y at *
      have c0 := HE.out.wb.c0
      have PT := Lib.hid (blPut_any wr pb p bm N S T [] i y HE.out.bl (by omega) (by omega))
      clear hel hel1
      go_wp2_with fail
      refine (CT.out _).mono ?_
      rintro e w2 ⟨rfl, ew⟩
      subst ew
      go_wp2_with fail
      refine PT.out.mono ?_
      rintro e w3 ⟨rfl, N3, T3, h3, t3, k3⟩
      have HE3 := Lib.hid (HE.out.turn h3 t3)
      have HK3 := Lib.hid k3
      have HRF := Lib.hid (HPK.out.refs k3)
      have RF := Lib.hid (blRefs_any w3 pb p bm N3 (markS S y) T3 [] (i + 1) y h3 (new_mark _ _))
      rw [mkS_mark y (.inr rfl)] at RF
      have c03 := HE3.out.wb.c0
      generalize mkS S y = mk at *
      clear h3 t3 k3 PT c0 CT HE
      have HPK3 := Lib.hid (HPK.out.put hyl HK3.out)
      clear HPK
      obtain ⟨n, hn1⟩ : ∃ n, n = cntE (markS S y) T3 y := ⟨_, rfl⟩
      rw [← hn1] at RF HRF
      clear hn1 HK3
      go_wp2_with fail
      refine RF.out.mono ?_
      rintro e w4 ⟨rfl, ew⟩
      subst ew
      by_cases hin : y ∈ A
      · have q1 : ((n : Int) == 1) = false := by
          have := HRF.out
          have h2 : n ≠ 1 := fun c => (this.1 c) hin
          simp; omega
        rw [if_pos hin] at HPK3
        clear RF HRF
        go_wp2_with fail
        go_roundw
        case rel => exact ⟨i + 1, N3, markS S y, T3, A, by omega, by omega, by go_num, HE3.out, HPK3.out, by omega⟩
        case measure => simp [intOf]; omega
      · have q1 : ((n : Int) == 1) = true := by
          have h2 : n = 1 := HRF.out.2 hin
          simp; omega
        rw [if_neg hin] at HPK3
        clear RF HRF hin
        go_wp2_with (at_builtin; go_loud (refine append_new (enc := encZB) (k := 1) (w := w3) (by rfl) (.tmp 58) (.tmp 60) 54 9 (.string ByteArray.empty) 16 (by rfl) Tryz.underlying54 info_strB (by rfl) (by decide) encZB_ok w.heap.size _ A y (by rfl) HE3.out.o6 (by rfl) (by omega) (by unfold maxLen; omega) HE3.out.bel.size _ (by rfl) ?_; intro v7 w7 hown7 ht7; have HE7 := Lib.hid (HE3.out.push6 hown7 ht7); clear hown7 ht7))
        go_roundw
        case rel => exact ⟨i + 1, N3, markS S y, T3, A ++ [y], by omega, by omega, by go_num, HE7.out, HPK3.out, by rw [List.length_append]; simp; omega⟩
        case measure => simp [intOf]; omega
    · have hx : ¬ (i : Int) < (ts.length : Int) ∨ (i : Int) < (ts.length : Int) ∧ ¬ (i : Int) < 20 := by omega
      clear hlt hi
      have hA20 : A.length ≤ 20 := by omega
      have hS20 := HE.out.bl.sl
      obtain ⟨hsz, hsum⟩ := HPK.out.size HE.out.bl.bw.blob.tok HE.out.bl.ts (by omega)
      have HPM := Lib.hid (HPK.out.perm HE.out.bl.bw.blob.tok HE.out.bl.ts (by omega))
      have PKC := Lib.hid (bPack_any wr pb p bm N S T _ HE.out.bl.bw (by omega) (fun m hm => by
        obtain ⟨x, hx, rfl⟩ := mem_keysE.1 hm
        rw [(HE.out.bl.ts x hx).2, mkS_len]; omega) (HT.out.below HE.out.bel))
      have HSM := Lib.hid hsum
      have c0 := HE.out.wb.c0
      clear hsz hsum
      rcases hx with j1 | ⟨j1, j2⟩
      all_goals
        rcases HCS.out with ⟨k0, hq⟩ | ⟨k0, hq⟩
        all_goals
          first | subst hq | skip
          go_wp2_with fail
          go_loopw [11] (fun v11 wq => ∃ k : Nat, k ≤ ns.length ∧ v11 = .int .i64 k ∧ wr = wq ∧ ∀ j (h : j < ns.length), j < k → ns[j] ≠ 181) (fun v11 _ => ns.length - (intOf v11).toNat)
          case atStart => exact ⟨0, Nat.zero_le _, rfl, rfl, fun j _ h => absurd h (by omega)⟩
          case round =>
            obtain ⟨k, hk, rfl, rfl, hfor⟩ := hrel
            have Hfor := Lib.hid hfor
            clear hfor
            by_cases hlt : k < ns.length
            · obtain ⟨c, hc⟩ : ∃ c, c = ((⟨ns.toArray⟩ : ByteArray)[k]'hlt).toNat := ⟨_, rfl⟩
              have B1 : (0 : Int) ≤ (k : Int) := by omega
              have B2 : (k : Int) < (ns.length : Int) := by omega
              by_cases h5 : c = 181
              · rw [h5] at hc
                clear h5 c
                have hc2 : ((⟨ns.toArray⟩ : ByteArray)[k]'hlt).toNat = 181 := hc.symm
                clear hc
                go_wp2_with fail
                refine (awake11_any _).mono ?_
                rintro e w6 ⟨rfl, hb6⟩
                have HB := Lib.hid (HE.out.bel.trans (hb6.mono HE.out.bel.size))
                go_wp2_with fail
                go_ret
                exact ⟨rfl, HB.out⟩
              · have Hne := Lib.hid (show ns[k] ≠ 181 from fun h => h5 (by rw [hc]; exact congrArg UInt8.toNat h))
                have hA : ((c : Int) == 181) = false := by simp; omega
                clear h5
                go_wp2_with fail
                go_roundw
                case rel =>
                  refine ⟨k + 1, by omega, by go_num, trivial, fun j hj hjk => ?_⟩
                  by_cases hj' : j < k
                  · exact Hfor.out j hj hj'
                  · obtain rfl : j = k := by omega
                    exact Hne.out
                case measure => simp [intOf]; omega
            · have B2 : ¬ (k : Int) < (ns.length : Int) := by omega
              have HNO := Lib.hid (show ∀ y ∈ ns, y ≠ 181 from fun y hy => by
                obtain ⟨j, hj, rfl⟩ := List.mem_iff_getElem.1 hy
                exact Hfor.out j hj (by omega))
              clear Hfor
              go_wp2_with fail
              refine PKC.out.mono ?_
              rintro e w5 ⟨L, hL, rfl, hb5⟩
              have hLA : L.Perm A := hL.trans HPM.out
              have hLl := hLA.length_eq
              have hL500 : ∀ x ∈ L, x.length ≤ 500 := fun x hx => HPK.out.ln x (hLA.mem_iff.1 hx)
              have hfl := frames_len L hL500
              have HSN := Lib.hid (scan_noisy ns L HNO.out (fun x hx => by have := hL500 x hx; omega))
              have HSF := Lib.hid (show (scanS (framesB L)).1 = L by rw [scanS_frames L (fun x hx => by have := hL500 x hx; omega)])
              have HLA := Lib.hid hLA
              have HE5 := Lib.hid (HE.out.new hb5)
              have c1 := HE5.out.wb.c1
              generalize framesB L = fs at *
              have hfs : fs.length ≤ 10200 := by omega
              have E := toArray_append ns fs
              have NW := Lib.hid (blNewS_any w5 p bm S i HE5.out.bl.bw.id hS20)
              clear hL hLA hL500 hfl hb5 PKC c0 HE HPM HNO
              go_wp2_with fail
              refine NW.out.mono ?_
              rintro e w6 ⟨pc, Nc, rfl, h6, hn6, hb6⟩
              have HC6 := Lib.hid (CW.start HE5.out hb6 h6 hn6)
              have HTB := Lib.hid HE5.out.bl.tb
              have UP := Lib.hid (blUnpack_any w6 pc p bm Nc S [] [] i (ns ++ fs) first_is h6 (by rw [List.length_append]; omega) (by rw [List.length_append]; omega) (HT.out.below HC6.out.bel) (HBT.out.below HC6.out.bel) (Nat.lt_of_lt_of_le HBT.out.1 HC6.out.bel.size))
              rw [HSN.out, hLl] at UP
              have X1 : ¬ 9223372036854775807 < ns.length + fs.length := by omega
              have SDF := Lib.hid (show (⟨fs.toArray⟩ : ByteArray).size = fs.length from rfl)
              have SDN := Lib.hid (show (⟨ns.toArray⟩ : ByteArray).size = ns.length from rfl)
              clear h6 hn6 hb6 NW c1 HE5 HSN
              go_wp2_with fail
              refine UP.out.mono ?_
              rintro e w7 ⟨n7, rfl, N7, S7, T7, hf7, h7, t7⟩
              obtain ⟨e1, e2, hpk7⟩ := HPK.out.other (by omega) (by omega) HLA.out hf7
              subst e1; subst e2
              have HP7 := Lib.hid hpk7
              have HC7 := Lib.hid (HC6.out.turn h7 t7)
              have UP2 := Lib.hid (blUnpack_any w7 pc p bm N7 S7 T7 [] (i + 2 * A.length) fs first_is h7 (by omega) (by omega) (HT.out.below HC7.out.bel) (HBT.out.below HC7.out.bel) (Nat.lt_of_lt_of_le HBT.out.1 HC7.out.bel.size))
              rw [HSF.out, hLl] at UP2
              clear UP hf7 h7 t7 hpk7 HC6 X1 E HSF
              go_wp2_with fail
              refine UP2.out.mono ?_
              rintro e w8 ⟨n8, rfl, N8, S8, T8, hf8, h8, t8⟩
              rw [HP7.out.again HLA.out] at hf8
              injection hf8 with e1 e2
              injection e2 with e2 e3
              subst e1; subst e2; subst e3
              have HC8 := Lib.hid ((HC7.out.turn h8 t8).mono (show i + 2 * A.length + 2 * A.length ≤ 200 by omega))
              clear UP2 h8 t8 HC7 hLl HLA
              obtain ⟨z1, z2⟩ := HP7.out.size HC8.out.bl.bw.blob.tok HC8.out.bl.ts (by omega)
              rw [← HSM.out] at z2
              obtain ⟨sm, hsm⟩ : ∃ sm, sm = sumE T := ⟨_, rfl⟩
              rw [← hsm] at z2
              have BC := fun (q : BelowOf w8) => Lib.hid (show Calls Tryz.prog 27 #[.pointer (some ⟨pc, 0, none⟩)] q.w fun e w' => e = .returned (.int .i64 (A.length : Nat)) ∧ q.w = w' from by
                have h5 := bCount_any q.w pc p bm N8 S7 T7 _ (HC8.out.new q.h).bl.bw
                rw [z1] at h5
                exact h5)
              have BY := fun (q : BelowOf w8) => Lib.hid (show Calls Tryz.prog 28 #[.pointer (some ⟨pc, 0, none⟩)] q.w fun e w' => e = .returned (.int .i64 (sm : Nat)) ∧ Below q.w.heap.size q.w w' from by
                have h5 := bBytes_any q.w pc p bm N8 S7 T7 _ (HC8.out.new q.h).bl.bw (k := 200) HC8.out.bl.tb (by omega)
                rw [z2] at h5
                exact h5)
              have BX := fun (q : BelowOf w8) => Lib.hid (show Calls Tryz.prog 28 #[.pointer (some ⟨pb, 0, none⟩)] q.w fun e w' => e = .returned (.int .i64 (sm : Nat)) ∧ Below q.w.heap.size q.w w' from by
                have h5 := bBytes_any q.w pb p bm N S7 T _ (HC8.out.new q.h).bw (k := i) HTB.out (by omega)
                rw [← hsm] at h5
                exact h5)
              have q1 : ((A.length : Int) != (A.length : Int)) = false := by simp
              have q2 : ((sm : Int) != (sm : Int)) = false := by simp
              have A0 := below_cell HC8.out.wb.c0
              clear z1 z2 hsm
              go_wp2_with fail
              have q1 : ((A.length : Int) != (A.length : Int)) = false := by simp
              have q2 : ((sm : Int) != (sm : Int)) = false := by simp
              refine wp_region_below (by kernel_rfl) (by kernel_rfl) ?_
              repeat (go_big_quiet_step (first
                | (go_at_call 27; with_reducible exact below_calls_same (BC _).out)
                | (go_at_call 28; with_reducible exact below_calls (BY _).out)
                | (go_at_call 28; with_reducible exact below_calls (BX _).out)))
              refine wpQuiet_nil ?_
              rintro w9 ⟨⟨w9b, hb9⟩, e9⟩
              have e9' : w9 = w9b := e9
              clear e9
              subst e9'
              have HC9 := Lib.hid (HC8.out.new hb9)
              clear hb9 HC8 BC BY BX A0
              go_wp2_with fail
              go_loopw [21, 22, 23] (fun v21 _ _ wq => ∃ (j : Nat) (Nj : Nat → Prop), j ≤ A.length ∧ v21 = .int .i64 (j : Nat) ∧ CW w wq pw pb p bm pp pc N Nj S7 T T7 A (.slice oa6 A.length oc6) (200 + j)) (fun v21 _ _ _ => A.length - (intOf v21).toNat)
              case atStart => exact ⟨0, N8, Nat.zero_le _, rfl, HC9.out⟩
              case round =>
                clear HC9
                obtain ⟨j, Nj, hj, rfl, hcw⟩ := hrel
                have HC := Lib.hid hcw
                clear hcw
                have j0 : (0 : Int) ≤ (j : Int) := by omega
                by_cases hjl : j < A.length
                · have j3 : (j : Int) < (A.length : Int) := by omega
                  obtain ⟨g, o, c', hv, hn, hel⟩ := (OwnN.row encZB_ok HC.out.o6).at hjl
                  injection hv with ea eb ec
                  subst ea; subst ec
                  clear eb
                  have HXS := Lib.hid (HP7.out.in_S (List.getElem_mem hjl))
                  have HXC := Lib.hid ((HP7.out.iff _).1 (List.getElem_mem hjl))
                  have hx500 := HP7.out.ln _ (List.getElem_mem hjl)
                  have HGET := Lib.hid (fun X K' N' (h : CW w X pw pb p bm pp pc N N' S7 T T7 A (.slice (some ⟨g, o, none⟩) A.length oc6) K') => show X.cell? ⟨g, o + j, none⟩ = some (.string ⟨A[j].toArray⟩) from by
                    obtain ⟨g', o', c', hv, hn, hel⟩ := (OwnN.row encZB_ok h.o6).at hjl
                    injection hv with ea eb ec
                    injection ea with ea
                    injection ea with e1 e2 e3
                    have := hel 0 _ rfl
                    rw [Nat.mul_one, Nat.add_zero, ← e1, ← e2] at this
                    exact this)
                  clear hel hn
                  generalize A[j] = x at *
                  have d0 := HGET.out wr (200 + j) Nj HC.out
                  have c1 := HC.out.wb.c1
                  have HED := Lib.hid (HC.out.new (Below_drew (Below.refl _ _)))
                  have d0d : wr.drew.cell? ⟨g, o + j, none⟩ = some (.string ⟨x.toArray⟩) := d0
                  have c1d := HED.out.wb.c1
                  have hmk : markS S7 x = S7 := markS_in HXS.out
                  have MK := Lib.hid (blMark_any wr.drew pc p bm Nj S7 T7 [] (200 + j) x HED.out.bl (by omega) (by omega))
                  rw [hmk] at MK
                  have GT := Lib.hid (fun X (h : BL X pc p bm Nj S7 T7 [] (200 + j + 1)) => by
                    have h5 := blGet_any X pc p bm Nj S7 T7 [] (200 + j + 1) x h (by omega) HXS.out
                    rw [if_pos HXC.out] at h5
                    exact h5)
                  generalize mkS S7 x = mk at *
                  clear hmk
                  go_wp2_with fail
                  go_region_held3 (fun w' => w'.cell? ⟨pw, 1, none⟩ = some (.pointer (some ⟨p, 0, none⟩)) ∧ w'.cell? ⟨g, o + j, none⟩ = some (.string ⟨x.toArray⟩))
                    (first | with_reducible exact ⟨by assumption, by assumption⟩ | go_keep)
                    (first
                      | (go_at_call 20; go_split_ands; refine MK.out.mono ?_; rintro e wa ⟨rfl, ha, ta, _⟩; have HCa := Lib.hid (HED.out.turn ha ta); have c1a := HCa.out.wb.c1; have d0a := HGET.out wa _ _ HCa.out; clear ha ta)
                      | (go_at_call 29; go_split_ands; refine (GT.out _ HCa.out.bl).mono ?_; rintro e wb ⟨gx, hgx, rfl, hbb⟩; subst hgx; have HCb := Lib.hid (HCa.out.new hbb); have c1b := HCb.out.wb.c1; have d0b := HGET.out wb _ _ HCb.out; clear hbb))
                  go_split_ands
                  have q3 : (x != x) = false := by simp
                  clear MK GT HC HED HCa c1 c1d d0 d0d c1a d0a
                  go_wp2_with fail
                  go_roundw
                  case rel => exact ⟨j + 1, Nj, hjl, by go_num, HCb.out⟩
                  case measure => simp [intOf]; omega
                · have j3 : ¬ (j : Int) < (A.length : Int) := by omega
                  go_wp2_with fail
                  refine (awake11_any _).mono ?_
                  rintro e wz ⟨rfl, hbz⟩
                  have HB := Lib.hid (HC.out.bel.trans (hbz.mono HC.out.bel.size))
                  go_wp2_with fail
                  go_ret
                  exact ⟨rfl, HB.out⟩
end Go.Proofs.YtamiacmnobklaaaGreatDoor
