/- The walk of of: SHA-256 of a text. -/
import Derived.Test.YtbiahhngeldhbaaBlockLaw
import Derived.Deep.DeepCutAuto
import Derived.Deep.CutBlock
set_option linter.unusedVariables false
namespace Go.Proofs.Ytbiahhngeldhbaa
open Go.RowKit

theorem SumsAt.begin' {w : World} {kb : Nat} {H K : List Nat} (h : SumsAt w kb H K) (k x : Nat) (hk : k < H.length) (hx : H[k]? = some x) : w.cell? ⟨kb, k, none⟩ = some (.int .u32 (x : Int)) := by
  rw [cell_of_row _ _ _ _ _ _ h]
  refine arrW_get _ _ _ ?_
  rw [List.getElem?_append_left hk, hx]
def strLen : Value → Nat
  | .string s => s.size
  | _ => 0
def tailB (n i : Nat) : List UInt8 := List.replicate (8 - i) 0 ++ (be8 n).drop (8 - i)
theorem tailB_length (n i : Nat) (h : i ≤ 8) : (tailB n i).length = 8 := by unfold tailB; simp [be8_length]
theorem be8_get (n i : Nat) (h : i < 8) : (be8 n)[i]? = some (beB n i) := by unfold be8; simp [h]
theorem tailB_step (pre : List UInt8) (n i : Nat) (hp : pre.length = 56) (hi : i < 8) : (pre ++ tailB n i).set (63 - i) (beB n (7 - i)) = pre ++ tailB n (i + 1) := by
  rw [List.set_append_right _ _ (by omega), hp, show 63 - i - 56 = 7 - i by omega]
  congr 1
  unfold tailB
  rw [List.set_append_left _ _ (by simp; omega), show 8 - i = (7 - i) + 1 by omega, show 8 - (i + 1) = 7 - i by omega, ← List.replicate_append_replicate (n := 7 - i) (m := 1)]
  have hl : 7 - i < (be8 n).length := by rw [be8_length]; omega
  have e := List.drop_eq_getElem_cons hl
  have e2 : (be8 n)[7 - i] = beB n (7 - i) := by
    have := be8_get n (7 - i) (by omega)
    rw [List.getElem?_eq_getElem hl] at this
    exact Option.some.inj this
  rw [List.set_append_right _ _ (by simp), List.length_replicate, Nat.sub_self, e, e2]
  simp
theorem tailB_zero (n : Nat) : tailB n 0 = List.replicate 8 0 := by unfold tailB; rw [List.drop_eq_nil_of_le (by rw [be8_length]; omega)]; simp
theorem tailB_all (n : Nat) : tailB n 8 = be8 n := by unfold tailB; simp
theorem be_val (n i : Nat) (hi : i < 8) : ((n : Int) / 2 ^ (8 * i) % 256) = (((beB n (7 - i)).toNat : Nat) : Int) := by
  unfold beB
  rw [show 8 * (7 - (7 - i)) = 8 * i by omega]
  exact byte_val n (8 * i)

/-- A rest with the byte 128 behind it. -/
def endB (r : List UInt8) : List UInt8 := r ++ 128 :: List.replicate (63 - r.length) 0
theorem endB_set (r : List UInt8) (h : r.length < 64) : (r ++ List.replicate (64 - r.length) 0).set r.length 128 = endB r := by
  unfold endB
  rw [List.set_append_right _ _ (Nat.le_refl _), Nat.sub_self, show 64 - r.length = (63 - r.length) + 1 by omega, List.replicate_succ, List.set_cons_zero]
theorem endB_length (r : List UInt8) (h : r.length < 64) : (endB r).length = 64 := by unfold endB; simp; omega
def preB (r : List UInt8) : List UInt8 := r ++ 128 :: List.replicate (55 - r.length) 0
theorem preB_length (r : List UInt8) (h : r.length < 56) : (preB r).length = 56 := by unfold preB; simp; omega
theorem endB_pre (r : List UInt8) (h : r.length < 56) : endB r = preB r ++ List.replicate 8 0 := by
  unfold endB preB
  rw [show 63 - r.length = (55 - r.length) + 8 by omega, ← List.replicate_append_replicate]
  simp
/-- What is left when the last block but its size is laid. -/
def Lastly (K : List Nat) (h0 : St) (l pre : List UInt8) (s : St) : Prop := pre.length = 56 ∧ s.ok ∧ shaS K h0 l = bytesOfL (blkS K s (pre ++ be8 (8 * l.length))).toL
theorem lastly_one (K : List Nat) (h0 : St) (l r : List UInt8) (j : Nat) (hok : h0.ok) (hr : l.drop (64 * j) = r) (hj : 64 * j ≤ l.length) (hrl : r.length < 56) : Lastly K h0 l (preB r) (absorb K h0 l j) := by
  have hlen : r.length = l.length - 64 * j := by rw [← hr, List.length_drop]
  refine ⟨preB_length r hrl, absorb_ok hok l j, ?_⟩
  rw [sha_one K h0 l j (by omega) (by omega), hr]
  unfold last1 preB
  simp
theorem lastly_two (K : List Nat) (h0 : St) (l r : List UInt8) (j : Nat) (hok : h0.ok) (hr : l.drop (64 * j) = r) (hj : 64 * j ≤ l.length) (hrl : r.length < 64) (hrl2 : ¬ r.length < 56) : Lastly K h0 l (List.replicate 56 0) (blkS K (absorb K h0 l j) (endB r)) := by
  have hlen : r.length = l.length - 64 * j := by rw [← hr, List.length_drop]
  refine ⟨List.length_replicate, addSt_ok _ _, ?_⟩
  rw [sha_two K h0 l j (by omega) (by omega), hr]
  rfl
theorem blocks_ne {w : World} {kb b : Nat} {H K : List Nat} {l : List UInt8} (h : SumsAt w kb H K) (h' : BlockAt w b l) : kb ≠ b := by
  intro e
  subst e
  unfold BlockAt at h'
  unfold SumsAt at h
  rw [h] at h'
  injection h' with h'
  injection h' with _ ht
  exact absurd ht (by decide)
theorem states_ne {w : World} {kb b : Nat} {H K l : List Nat} (h : SumsAt w kb H K) (h' : StAt w b l) : kb ≠ b := by
  intro e
  subst e
  unfold StAt at h'
  unfold SumsAt at h
  rw [h] at h'
  injection h' with h'
  injection h' with _ ht
  exact absurd ht (by decide)
set_option maxRecDepth 100000 in
set_option maxHeartbeats 4000000 in
theorem of_any (kb : Nat) (h0 : St) (K : List Nat) (l : List UInt8) (w : World) (hok : h0.ok) (hK : K.length = 64) (hKlt : ∀ x ∈ K, x < 4294967296) (hl : l.length ≤ 1000000) (hk : SumsAt w kb h0.toL K) :
    Calls Try.prog 25 #[.pointer (some ⟨kb, 0, none⟩), .string ⟨l.toArray⟩] w fun e w' => e = .returned (.string ⟨(shaS K h0 l).toArray⟩) ∧ Below w.heap.size w w' := by
  obtain ⟨Z, hZ, hZ2⟩ : ∃ Z : Array Value, Z = #[.int .u8 0, .int .u8 0, .int .u8 0, .int .u8 0, .int .u8 0, .int .u8 0, .int .u8 0, .int .u8 0, .int .u8 0, .int .u8 0, .int .u8 0, .int .u8 0, .int .u8 0, .int .u8 0, .int .u8 0, .int .u8 0, .int .u8 0, .int .u8 0, .int .u8 0, .int .u8 0, .int .u8 0, .int .u8 0, .int .u8 0, .int .u8 0, .int .u8 0, .int .u8 0, .int .u8 0, .int .u8 0, .int .u8 0, .int .u8 0, .int .u8 0, .int .u8 0, .int .u8 0, .int .u8 0, .int .u8 0, .int .u8 0, .int .u8 0, .int .u8 0, .int .u8 0, .int .u8 0, .int .u8 0, .int .u8 0, .int .u8 0, .int .u8 0, .int .u8 0, .int .u8 0, .int .u8 0, .int .u8 0, .int .u8 0, .int .u8 0, .int .u8 0, .int .u8 0, .int .u8 0, .int .u8 0, .int .u8 0, .int .u8 0, .int .u8 0, .int .u8 0, .int .u8 0, .int .u8 0, .int .u8 0, .int .u8 0, .int .u8 0, .int .u8 0] ∧ Z = arrB (List.replicate 64 0) := ⟨_, rfl, rfl⟩
  have n0 := hk.begin' 0 h0.a (by simp [St.toL]) rfl
  have n1 := hk.begin' 1 h0.b (by simp [St.toL]) rfl
  have n2 := hk.begin' 2 h0.c (by simp [St.toL]) rfl
  have n3 := hk.begin' 3 h0.d (by simp [St.toL]) rfl
  have n4 := hk.begin' 4 h0.e (by simp [St.toL]) rfl
  have n5 := hk.begin' 5 h0.f (by simp [St.toL]) rfl
  have n6 := hk.begin' 6 h0.g (by simp [St.toL]) rfl
  have n7 := hk.begin' 7 h0.h (by simp [St.toL]) rfl
  have HK := Lib.hid hk
  have HKl := Lib.hid hK
  have HKlt := Lib.hid hKlt
  have HOK := Lib.hid hok
  have HZ := Lib.hid hZ
  have HZ2 := Lib.hid hZ2
  have L := Lib.hid (show (⟨l.toArray⟩ : ByteArray).size = l.length from rfl)
  clear hk hK hKlt hok hZ hZ2
  go_enter Try.func25, Try.ntmps25
  have g1 := heap_alloc2_old w (.cells (arrW h0.toL) 60) (.cells Z 68)
  have g2 := heap_alloc2_new w (.cells (arrW h0.toL) 60) (.cells Z 68)
  have hb0 : Below w.heap.size w ((w.alloc (.cells (arrW h0.toL) 60)).alloc (.cells Z 68)) := ((Below.refl _ _).alloc (Nat.le_refl _) _).alloc (by simp) _
  obtain ⟨N, hN⟩ : ∃ N, N = w.heap.size := ⟨_, rfl⟩
  obtain ⟨B, hB⟩ : ∃ B, B = w.heap.size + 1 := ⟨_, rfl⟩
  have hNB : N ≠ B := by omega
  have hNw : w.heap.size ≤ N := by omega
  have hBw : w.heap.size ≤ B := by omega
  rw [← hN] at g1
  rw [← hB] at g2
  have G1 : Hid (StAt ((w.alloc (.cells (arrW h0.toL) 60)).alloc (.cells Z 68)) N (absorb K h0 l 0).toL) := Lib.hid g1
  have G2 : Hid (BlockAt ((w.alloc (.cells (arrW h0.toL) 60)).alloc (.cells Z 68)) B (List.replicate 64 0)) := Lib.hid (by unfold BlockAt; rw [← HZ2.out]; exact g2)
  have L0 := Lib.hid hb0
  clear g1 g2 hb0
  go_wp2
  rw [← HZ.out, ← hB, ← hN]
  change Code.wp _ _ _ _ ((w.alloc (.cells (arrW h0.toL) 60)).alloc (.cells Z 68))
  generalize (w.alloc (.cells (arrW h0.toL) 60)).alloc (.cells Z 68) = W0 at *
  clear n0 n1 n2 n3 n4 n5 n6 n7 HZ HZ2 hN hB
  go_loopw [6] (fun v wr => ∃ (j : Nat) (old : List UInt8), 64 * j ≤ l.length ∧ v = .string ⟨(l.drop (64 * j)).toArray⟩ ∧ old.length = 64 ∧ StAt wr N (absorb K h0 l j).toL ∧ BlockAt wr B old ∧ Below w.heap.size w wr) (fun v _ => strLen v)
  case atStart => exact ⟨0, _, by omega, rfl, List.length_replicate, G1.out, G2.out, L0.out⟩
  case round =>
    obtain ⟨j, old, hj, rfl, hold, hst, hblk, hbel⟩ := hrel
    obtain ⟨r, hr⟩ : ∃ r, l.drop (64 * j) = r := ⟨_, rfl⟩
    have hrl : r.length = l.length - 64 * j := by rw [← hr, List.length_drop]
    rw [hr]
    have R := Lib.hid (show (⟨r.toArray⟩ : ByteArray).size = r.length from rfl)
    have hsum : SumsAt wr kb h0.toL K := (hbel.block kb (Array.getElem?_eq_some_iff.1 HK.out).1).trans HK.out
    have HSM := Lib.hid hsum
    have HR := Lib.hid hr
    have HRL := Lib.hid hrl
    have Hold := Lib.hid hold
    have HST := Lib.hid hst
    have HBL := Lib.hid hblk
    have hokj := absorb_ok (K := K) HOK.out l j
    have HJ := Lib.hid hokj
    clear hr hold hst hblk hsum hokj hrl
    have hrl2 : r.length ≤ 1000000 := by rw [HRL.out]; omega
    by_cases hlt : 64 ≤ r.length
    · have E := drop_toArray r 64 r.length (Nat.le_refl _)
      have hn : Nat.min r.length 64 = 64 := Nat.min_eq_right hlt
      have Hn := Lib.hid hn
      have SJ := Lib.hid (show absorb K h0 l (j + 1) = blkS K (absorb K h0 l j) (r.take 64) by rw [absorb, HR.out])
      clear hn
      go_wp2_with (first
        | (with_reducible refine wpList_copy_block (o := ⟨some 20, _, _, _, _, _⟩) rfl (.tmp 18) (.tmp 19) rfl B 64 old r Hold.out rfl rfl HBL.out 64 Hn.out ?_); intro w3 hb3 hk3; have HB3 := Lib.hid hb3; clear hb3)
      have hst3 : StAt w3 N (absorb K h0 l j).toL := hk3.old HST.out hNB
      have hsm3 : SumsAt w3 kb h0.toL K := hk3.old HSM.out (blocks_ne HSM.out HBL.out)
      have hb3' : BlockAt w3 B (r.take 64) := by
        have := HB3.out
        rw [List.drop_eq_nil_of_le (Nat.le_of_eq Hold.out), List.append_nil] at this
        exact this
      have T := Lib.hid (takeIn_any kb N B h0.toL K (absorb K h0 l j) (r.take 64) w3 rfl HKl.out HKlt.out HJ.out (by rw [List.length_take]; omega) hsm3 hst3 hb3')
      rw [← SJ.out] at T
      have HB3' := Lib.hid hb3'
      clear hst3 hsm3 hb3'
      refine T.out.mono ?_
      rintro e w4 ⟨rfl, hst4, hk4⟩
      have hb4 : BlockAt w4 B (r.take 64) := hk4.old HB3'.out (Ne.symm hNB)
      have B3 : Below w.heap.size w w3 := hbel.trans (hk3.below hbel.size (fun k e => by omega))
      have B4 := Lib.hid (B3.trans (hk4.below B3.size (fun k e => by omega)))
      have HB4 := Lib.hid hb4
      have HS4 := Lib.hid hst4
      have DR := Lib.hid (show r.drop 64 = l.drop (64 * (j + 1)) by rw [← HR.out, List.drop_drop, Nat.mul_add, Nat.mul_one])
      have TL := Lib.hid (show (r.take 64).length = 64 by rw [List.length_take]; omega)
      clear hb4 hst4 hk4 hk3 B3
      go_wp2
      go_roundw
      case rel => exact ⟨j + 1, _, by have := HRL.out; omega, by rw [← DR.out], TL.out, HS4.out, HB4.out, B4.out⟩
      case measure =>
        simp [strLen]
        show (r.drop 64).length < r.length
        rw [List.length_drop]
        omega
    · have hr64 : r.length < 64 := by omega
      have hmin : Nat.min r.length 64 = r.length := Nat.min_eq_left (Nat.le_of_lt hr64)
      have Hmin := Lib.hid hmin
      have htk : r.take 64 = r := List.take_of_length_le (Nat.le_of_lt hr64)
      have Htk := Lib.hid htk
      have hdl : (old.drop r.length).length = 64 - r.length := by rw [List.length_drop, Hold.out]
      have Hdl := Lib.hid hdl
      have htl : (r.take 64).length = r.length := by rw [htk]
      have Htl := Lib.hid htl
      have ENDL := Lib.hid (endB_length r hr64)
      have ENDS := Lib.hid (endB_set r hr64)
      have rq : (r.length : Int) < 64 := by omega
      have r0 : (0 : Int) ≤ (r.length : Int) := by omega
      have rle : (r.length : Int) ≤ 64 := by omega
      have rne : ¬ r.length = 64 := by omega
      clear hmin htk hdl htl
      go_upto_if 34 with ((with_reducible refine wpList_copy_block (o := ⟨some 27, _, _, _, _, _⟩) rfl (.tmp 25) (.tmp 26) rfl B 64 old r Hold.out rfl rfl HBL.out r.length Hmin.out ?_); intro w3 hb3 hk3; obtain ⟨w4, hcl, hb4, hk4⟩ := clear_block_ex w3 B r.length (64 - r.length) (r.take 64) (old.drop r.length) Htl.out Hdl.out hr64 hb3; have hc4 := hb4.at' r.length (by rw [List.length_append, Htl.out, List.length_replicate]; omega); have hf4 := frozen_of_row w4 B r.length _ _ hb4; have HB4 := Lib.hid hb4; clear hb3 hb4)
      have hb5 : BlockAt (w4.setCell ⟨B, r.length, none⟩ (.int .u8 128)) B (endB r) := by
        have h1 : (w4.setCell ⟨B, r.length, none⟩ (.int .u8 128)).heap[B]? = _ := heap_setCell_same w4 B r.length _ _ _ HB4.out
        rw [Htk.out] at h1
        rw [← ENDS.out]
        unfold BlockAt
        rw [← arrB_set]
        exact h1
      have k5 : Kept (· = B) wr (w4.setCell ⟨B, r.length, none⟩ (.int .u8 128)) := (hk3.trans hk4).setCell (by rfl) _
      have hst5 : StAt (w4.setCell ⟨B, r.length, none⟩ (.int .u8 128)) N (absorb K h0 l j).toL := k5.old HST.out hNB
      have hsm5 : SumsAt (w4.setCell ⟨B, r.length, none⟩ (.int .u8 128)) kb h0.toL K := k5.old HSM.out (blocks_ne HSM.out HBL.out)
      have hbl5 : Below w.heap.size w (w4.setCell ⟨B, r.length, none⟩ (.int .u8 128)) := hbel.trans (k5.below hbel.size (fun k e => by omega))
      have HB5 := Lib.hid hb5
      have HST5 := Lib.hid hst5
      have HSM5 := Lib.hid hsm5
      have HBL5 := Lib.hid hbl5
      clear hb5 k5 hst5 hsm5 hbl5 hk3 hk4 hcl hc4 hf4
      generalize w4.setCell ⟨B, r.length, none⟩ (.int .u8 128) = w5 at *
      go_cut [] (fun wx => ∃ (pre : List UInt8) (s' : St), Lastly K h0 l pre s' ∧ BlockAt wx B (pre ++ List.replicate 8 0) ∧ StAt wx N s'.toL ∧ SumsAt wx kb h0.toL K ∧ Below w.heap.size w wx)
      case first =>
        by_cases h56 : r.length < 56
        · have t56 : ¬ 56 ≤ r.length := by omega
          have LO := Lib.hid (lastly_one K h0 l r j HOK.out HR.out hj h56)
          go_wp2_with fail
          go_meet
          exact ⟨preB r, _, LO.out, by rw [← endB_pre r h56]; exact HB5.out, HST5.out, HSM5.out, HBL5.out⟩
        · have t56 : 56 ≤ r.length := by omega
          have LT := Lib.hid (lastly_two K h0 l r j HOK.out HR.out hj hr64 h56)
          have T := Lib.hid (takeIn_any kb N B h0.toL K (absorb K h0 l j) (endB r) w5 rfl HKl.out HKlt.out HJ.out ENDL.out HSM5.out HST5.out HB5.out)
          go_wp2_with fail
          refine T.out.mono ?_
          rintro e w6 ⟨rfl, hst6, hk6⟩
          have hb6 : BlockAt w6 B (endB r) := hk6.old HB5.out (Ne.symm hNB)
          have hsm6 : SumsAt w6 kb h0.toL K := hk6.old HSM5.out (states_ne HSM5.out HST5.out)
          have hbl6 : Below w.heap.size w w6 := HBL5.out.trans (hk6.below HBL5.out.size (fun k e => by omega))
          obtain ⟨w7, hcl, hb7, hk7⟩ := clear_all_ex w6 B 64 (endB r) ENDL.out hb6
          have hst7 := hk7.old hst6 hNB
          have hsm7 := hk7.old hsm6 (blocks_ne hsm6 hb6)
          have hbl7 := hbl6.trans (hk7.below hbl6.size (fun k e => by omega))
          have P7 := Lib.hid (show BlockAt w7 B (List.replicate 56 0 ++ List.replicate 8 0) ∧ StAt w7 N (blkS K (absorb K h0 l j) (endB r)).toL ∧ SumsAt w7 kb h0.toL K ∧ Below w.heap.size w w7 from ⟨hb7, hst7, hsm7, hbl7⟩)
          clear hst6 hk6 hb6 hsm6 hbl6 hb7 hk7 hst7 hsm7 hbl7
          go_wp2_with fail
          go_meet
          exact ⟨_, _, LT.out, P7.out⟩
      case rest =>
        obtain ⟨pre, s', hlast, hblk, hst, hsm, hbelc⟩ := hcut
        have HLA := Lib.hid hlast
        have hpl := hlast.1
        have Hpl := Lib.hid hpl
        obtain ⟨S8, hS8⟩ : ∃ S, 8 * l.length = S := ⟨_, rfl⟩
        have e8 : (l.length : Int) * 8 = (S8 : Int) := by omega
        have s8 : S8 < 18446744073709551616 := by omega
        have HS8 := Lib.hid hS8
        have G8 := Lib.hid (show BlockAt wc B (pre ++ tailB S8 0) by rw [tailB_zero]; exact hblk)
        have H8 := Lib.hid hst
        have J8 := Lib.hid hsm
        have B8 := Lib.hid hbelc
        clear hlast hpl hS8 hblk hst hsm hbelc G1 G2 L0
        go_wp2
        go_loopw [42] (fun i wr => ∃ k : Nat, k ≤ 8 ∧ i = .int .i64 k ∧ BlockAt wr B (pre ++ tailB S8 k) ∧ StAt wr N s'.toL ∧ SumsAt wr kb h0.toL K ∧ Below w.heap.size w wr) (fun i _ => 8 - (intOf i).toNat)
        case atStart => exact ⟨0, by omega, rfl, G8.out, H8.out, J8.out, B8.out⟩
        case round =>
          obtain ⟨k, hk, rfl, hblk, hst, hsm, hbelc⟩ := hrel
          have HBk := Lib.hid hblk
          have HSk := Lib.hid hst
          have HMk := Lib.hid hsm
          have hpt : (pre ++ tailB S8 k).length = 64 := by rw [List.length_append, Hpl.out, tailB_length _ _ hk]
          by_cases hlt : k < 8
          · obtain ⟨p, hp⟩ : ∃ p, p = 63 - k := ⟨_, rfl⟩
            have hp64 : p < 64 := by omega
            have hc := hblk.at' p (by rw [hpt]; exact hp64)
            have hf := frozen_of_row wr B p _ _ hblk
            have BV := Lib.hid (be_val S8 k hlt)
            have TS := tailB_step pre S8 k Hpl.out hlt
            rw [← hp] at TS
            have HTS := Lib.hid TS
            generalize ((pre ++ tailB S8 k)[p]'(by rw [hpt]; exact hp64)).toNat = oldb at *
            have w1 : (63 : Int) - (k : Int) = (p : Int) := by omega
            have pq : (p : Int) < 64 := by omega
            have p0 : (0 : Int) ≤ (p : Int) := by omega
            clear hblk hst hsm hpt TS hp
            go_wp2
            go_roundw
            case rel =>
              refine ⟨k + 1, by omega, by go_num, ?_, ?_, ?_, hbelc.setCell (by exact hBw) _⟩
              · rw [BV.out]
                unfold BlockAt
                rw [← HTS.out, ← arrB_set]
                exact heap_setCell_same wr B p _ _ _ HBk.out
              · exact ((Kept.refl (· = B) wr).setCell (p := ⟨B, p, none⟩) (by rfl) _).old HSk.out hNB
              · exact ((Kept.refl (· = B) wr).setCell (p := ⟨B, p, none⟩) (by rfl) _).old HMk.out (blocks_ne HMk.out HBk.out)
            case measure => simp [intOf]; omega
          · have hk8 : k = 8 := by omega
            have h8 : 8 ≤ k := by omega
            rw [hk8, tailB_all] at hblk
            rw [hk8, tailB_all] at hpt
            have T := Lib.hid (takeIn_any kb N B h0.toL K s' (pre ++ be8 S8) wr rfl HKl.out HKlt.out HLA.out.2.1 hpt hsm hst hblk)
            have FIN := Lib.hid (show shaS K h0 l = bytesOfL (blkS K s' (pre ++ be8 S8)).toL by rw [← HS8.out]; exact HLA.out.2.2)
            have TXT := fun w' h => Lib.hid (text_any N (blkS K s' (pre ++ be8 S8)).toL w' rfl h)
            clear hblk hst hsm hpt hk8
            go_wp2_with fail
            refine T.out.mono ?_
            rintro e w6 ⟨rfl, hst6, hk6⟩
            have hbl6 := hbelc.trans (hk6.below hbelc.size (fun k e => by omega))
            have H6 := Lib.hid hst6
            clear hst6 hk6
            go_wp2_with fail
            refine (TXT _ H6.out).out.mono ?_
            rintro e w7 ⟨rfl, hb7⟩
            go_wp2
            go_ret
            exact ⟨by rw [FIN.out]; rfl, hbl6.trans (hb7.mono hbl6.size)⟩
end Go.Proofs.Ytbiahhngeldhbaa
