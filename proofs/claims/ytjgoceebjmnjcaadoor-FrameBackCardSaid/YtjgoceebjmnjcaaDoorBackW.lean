/- The walk of the law FrameBack. -/
import Derived.Test.YtjgoceebjmnjcaaDoorLostW
set_option linter.unusedVariables false
namespace Go.Proofs.YtjgoceebjmnjcaaDoor
open Go.RowKit

theorem framesB_append (xs ys : List (List UInt8)) : framesB (xs ++ ys) = framesB xs ++ framesB ys := by unfold framesB; rw [List.flatMap_append]
/-- The last frame lacks bytes. -/
theorem frames_cut (xs : List (List UInt8)) (hx : ∀ x ∈ xs, x.length ≤ 500) (h0 : 0 < xs.length) (hl : xs.length - 1 < xs.length) (y : List UInt8) (hyy : xs[xs.length - 1]'hl = y) (cut : Nat) (h1 : 1 ≤ cut) (h2 : cut ≤ y.length + 10) :
    scanS ((framesB xs).take ((framesB xs).length - cut)) = (xs.take (xs.length - 1), (framesB xs).length - y.length - 10, 0) := by
  have hs : xs = xs.take (xs.length - 1) ++ [xs[xs.length - 1]'hl] := by
    rw [← List.take_succ_eq_append_getElem hl]
    rw [List.take_of_length_le (by omega)]
  have hy := hx (xs[xs.length - 1]'hl) (List.getElem_mem _)
  have hi : ∀ x ∈ xs.take (xs.length - 1), x.length ≤ 65536 := fun x h => by have := hx x (List.mem_of_mem_take h); omega
  rw [hyy] at hs hy
  generalize xs.take (xs.length - 1) = init at *
  have e : framesB xs = framesB init ++ frameB y := by rw [hs, framesB_append]; simp [framesB]
  have el : (framesB xs).length = (framesB init).length + (y.length + 10) := by rw [e, List.length_append, frameB_length]
  have et : (framesB xs).take ((framesB xs).length - cut) = framesB init ++ (frameB y).take (y.length + 10 - cut) := by
    rw [el, e, List.take_append, List.take_of_length_le (by omega)]
    congr 2
    omega
  rw [et, scanS_cut init y _ hi (by omega) (by omega), el]
  simp only [Prod.mk.injEq, true_and, and_true]
  omega
theorem frames_cut2 (xs : List (List UInt8)) (k : Nat) (hx : ∀ x ∈ xs, x.length ≤ 500) (hk : xs.length = k + 1) (hl : k < xs.length) (y : List UInt8) (hyy : xs[k]'hl = y) (cut : Nat) (h1 : 1 ≤ cut) (h2 : cut ≤ y.length + 10) :
    scanS ((framesB xs).take ((framesB xs).length - cut)) = (xs.take k, (framesB xs).length - y.length - 10, 0) := by
  obtain rfl : k = xs.length - 1 := by omega
  exact frames_cut xs hx (by omega) hl y hyy cut h1 h2
theorem Row.takeM {w : World} {N : Nat → Prop} {b off cap m : Nat} {xs : List (List UInt8)} (h : Row encT N w (.slice (some ⟨b, off, none⟩) m cap) xs) (hm : xs.length = m) (k cap' : Nat) (hk : k ≤ xs.length) : Row encT N w (.slice (some ⟨b, off, none⟩) k cap') (xs.take k) := by
  obtain ⟨a, c, hv, hc⟩ := h
  have hlen : (xs.take k).length = k := by rw [List.length_take]; omega
  refine ⟨some ⟨b, off, none⟩, cap', by rw [hlen], fun i hi => ?_⟩
  simp at hv
  obtain ⟨rfl, _⟩ := hv
  obtain ⟨b2, off2, ha, hn, hcell⟩ := hc i (by omega)
  refine ⟨b2, off2, ha, hn, ?_⟩
  rw [hcell, List.getElem_take]
theorem Row.belowL {w w' : World} {v : Value} {xs : List (List UInt8)} (h : Row encT (· < w.heap.size) w v xs) (hb : Below w.heap.size w w') : Row encT (· < w'.heap.size) w' v xs := by
  obtain ⟨a, c, hv, hc⟩ := h
  refine ⟨a, c, hv, fun i hi => ?_⟩
  obtain ⟨b, off, ha, hn, hcell⟩ := hc i hi
  exact ⟨b, off, ha, Nat.lt_of_lt_of_le hn hb.size, (hb.cell (p := ⟨b, off + i, none⟩) hn).trans hcell⟩
theorem framesB_len500 (xs : List (List UInt8)) (h : ∀ x ∈ xs, x.length ≤ 500) : (framesB xs).length ≤ 510 * xs.length := by
  induction xs with
  | nil => simp [framesB]
  | cons x xs ih =>
    have h1 := h x (by simp)
    have h2 := ih (fun y hy => h y (by simp [hy]))
    unfold framesB at h2 ⊢
    rw [List.flatMap_cons, List.length_append, frameB_length, List.length_cons]
    omega
theorem Row.takeN {w : World} {N : Nat → Prop} {b off cap : Nat} {xs : List (List UInt8)} (h : Row encT N w (.slice (some ⟨b, off, none⟩) xs.length cap) xs) (k cap' : Nat) (hk : k ≤ xs.length) : Row encT N w (.slice (some ⟨b, off, none⟩) k cap') (xs.take k) := by
  obtain ⟨a, c, hv, hc⟩ := h
  have hlen : (xs.take k).length = k := by rw [List.length_take]; omega
  refine ⟨some ⟨b, off, none⟩, cap', by rw [hlen], fun i hi => ?_⟩
  simp at hv
  obtain ⟨rfl, _⟩ := hv
  obtain ⟨b2, off2, ha, hn, hcell⟩ := hc i (by omega)
  refine ⟨b2, off2, ha, hn, ?_⟩
  rw [hcell, List.getElem_take]

set_option maxHeartbeats 800000 in
theorem frameBack_mid (b off cap : Nat) (xs : List (List UInt8)) (n : Int) (hn0 : -9223372036854775808 ≤ n) (hn1 : n ≤ 9223372036854775807) (w : World)
    (hv : Row encT (· < w.heap.size) w (.slice (some ⟨b, off, none⟩) xs.length cap) xs) (h0 : 0 < xs.length) (h20 : xs.length ≤ 20) (hcap : xs.length ≤ cap) (ht : Tab w) (hT : BTab w) (FI : FirstSpec) :
    Calls Tryd.prog 8 #[.slice (some ⟨b, off, none⟩) xs.length cap, .int .i64 n] w fun e w' => e = .returned (.bool true) ∧ Below w.heap.size w w' := by
  have A := Lib.hid (awake_any w ht)
  have T := Lib.hid ht
  have BT := Lib.hid hT
  have hc : ∀ i (h : i < xs.length), w.cell? ⟨b, off + i, none⟩ = some (encT xs[i]) := fun i hi => by
    obtain ⟨a, c, hv, hc⟩ := hv
    obtain ⟨b2, off2, ha, _, hcell⟩ := hc i hi
    simp at hv
    obtain ⟨rfl, _⟩ := hv
    simp at ha
    obtain ⟨rfl, rfl⟩ := ha
    exact hcell
  have HC := Lib.hid hc; clear hc
  have Hv := Lib.hid hv; clear hv ht hT
  go_enter Tryd.func8, Tryd.ntmps8
  go_wp2_with fail
  go_loopw [5] (fun i wr => ∃ k : Nat, k ≤ xs.length ∧ i = .int .i64 k ∧ wr = w ∧ ∀ j (h : j < xs.length), j < k → xs[j].length ≤ 500)
    (fun i _ => xs.length - (intOf i).toNat)
  case atStart => exact ⟨0, by omega, rfl, rfl, fun j _ h => absurd h (by omega)⟩
  case round =>
    obtain ⟨k, hk, rfl, rfl, hfor⟩ := hrel
    have Hfor := Lib.hid hfor; clear hfor
    by_cases hlt : k < xs.length
    · have hlt2 : k < xs.length := by omega
      have hcell : wr.cell? ⟨b, off + k, none⟩ = some (.string ⟨(xs[k]'hlt2).toArray⟩) := HC.out k hlt2
      obtain ⟨y, hyk⟩ : ∃ y, xs[k]'hlt2 = y := ⟨_, rfl⟩
      rw [hyk] at hcell
      have Hyk := Lib.hid hyk; clear hyk
      have L := Lib.hid (show (⟨y.toArray⟩ : ByteArray).size = y.length from rfl)
      by_cases h5 : 500 < y.length
      · go_wp2_with fail
        refine A.out.mono ?_
        rintro e w1 ⟨rfl, rfl⟩
        go_wp2
        go_ret
        exact ⟨rfl, Below.refl _ _⟩
      · go_wp2_with fail
        go_roundw
        case rel =>
          refine ⟨k + 1, by omega, by go_num, trivial, fun j hj hjk => ?_⟩
          by_cases hj' : j < k
          · exact Hfor.out j hj hj'
          · obtain rfl : j = k := by omega
            rw [Hyk.out]; omega
        case measure => simp [intOf]; omega
    · have hall : ∀ y ∈ xs, y.length ≤ 500 := by
        intro y hy
        obtain ⟨j, hj, rfl⟩ := List.mem_iff_getElem.1 hy
        exact Hfor.out j hj (by omega)
      clear Hfor
      have hall2 : ∀ x ∈ xs, x.length ≤ 65536 := fun x h => by have := hall x h; omega
      have ALL := Lib.hid (all_any _ xs wr Hv.out (by omega) (fun x h => by have := hall x h; omega) T.out)
      have ea : allS xs = (framesB xs, 0) := by unfold allS; rw [if_pos hall2]
      rw [ea] at ALL
      clear ea
      have hfl := framesB_len500 xs hall
      have SC := fun w' (ht : Tab w') (hT : BTab w') => Lib.hid (scan_go (framesB xs) w' FI (by omega) ht hT hT.1)
      rw [scanS_frames xs hall2] at SC
      have CUT := Lib.hid (frames_cut2 xs (xs.length - 1) hall (by omega) (by omega) _ rfl)
      have SC2 := fun (c : Nat) w' (ht : Tab w') (hT : BTab w') => Lib.hid (scan_go ((framesB xs).take ((framesB xs).length - c)) w' FI (by rw [List.length_take]; omega) ht hT hT.1)
      have L := Lib.hid (show (⟨(framesB xs).toArray⟩ : ByteArray).size = (framesB xs).length from rfl)
      have TK := fun k => take_toArray (framesB xs) k
      have hlast : (xs.length - 1) < xs.length := by omega
      have hy500 := hall _ (List.getElem_mem hlast)
      have hcl : wr.cell? ⟨b, off + ((xs.length - 1)), none⟩ = some (.string ⟨(xs[(xs.length - 1)]'hlast).toArray⟩) := HC.out _ hlast
      have e1 : (framesB xs).length ≥ (xs[(xs.length - 1)]'hlast).length + 10 := by
        have h1 : xs = xs.take ((xs.length - 1)) ++ [xs[(xs.length - 1)]'hlast] := by
          rw [← List.take_succ_eq_append_getElem hlast, List.take_of_length_le (by omega)]
        have h2 := congrArg (fun z => (framesB z).length) h1
        simp only [framesB_append, List.length_append] at h2
        have h3 : (framesB [xs[(xs.length - 1)]'hlast]).length = (xs[(xs.length - 1)]'hlast).length + 10 := by simp [framesB, frameB_length]
        omega
      clear hall hall2
      generalize xs[(xs.length - 1)]'hlast = z at *
      generalize hF : framesB xs = F at *
      have L2 := Lib.hid (show (⟨z.toArray⟩ : ByteArray).size = z.length from rfl)
      have hF65 : F.length ≤ 10200 := by omega
      have HCL := Lib.hid hcl; clear hcl
      clear hfl hF
      have TS := fun w' u v hu hv => Lib.hid (texts_same w' u v xs hu hv (by omega))
      have TS2 := fun w' u v hu hv => Lib.hid (texts_same w' u v (xs.take ((xs.length - 1))) hu hv (by rw [List.length_take]; omega))
      have TKN := Lib.hid (fun w' (hv : Row encT (· < w'.heap.size) w' (.slice (some ⟨b, off, none⟩) xs.length cap) xs) => Row.takeM hv (by omega) ((xs.length - 1)) cap (by omega))
      go_wp2_with fail
      refine ALL.out.mono ?_
      rintro e w1 ⟨rfl, hb1⟩
      clear ALL
      go_wp2_with fail
      refine (SC _ (T.out.below hb1) (BT.out.below hb1)).out.mono ?_
      rintro e w2 ⟨v, rfl, ho, hb2⟩
      have hb02 := below2 hb1 hb2
      clear SC
      go_wp2_with fail
      refine (TS _ _ _ (Row.belowL Hv.out hb02) ho.rowlt).out.mono ?_
      rintro e w3 ⟨rfl, hb3⟩
      have hb03 := below2 hb02 hb3
      clear TS ho
      have hcl3 : w3.cell? ⟨b, off + ((xs.length - 1)), none⟩ = some (.string ⟨z.toArray⟩) := (hb03.cell (p := ⟨b, off + ((xs.length - 1)), none⟩) (World.block_lt_of_cell? _ _ HCL.out)).trans HCL.out
      have W1 : IntKind.i64.wrap ((xs.length : Int) - 1) = (((xs.length - 1) : Nat) : Int) := by rw [IntWalk.i64_in _ (by omega)]; omega
      have W2 : IntKind.i64.wrap ((z.length : Int) + 10) = (z.length : Int) + 10 := IntWalk.i64_in _ (by omega)
      have Z0 : ¬ xs.length = 0 := by omega
      have Z2 : ((xs.length : Int) == 0) = false := by simpa using Z0
      by_cases hc1 : n < 1
      · go_wp2_with fail
        refine (awake_any _ (T.out.below hb03)).mono ?_
        rintro e w4 ⟨rfl, rfl⟩
        go_wp2
        go_ret
        exact ⟨rfl, hb03⟩
      · by_cases hc2 : (z.length : Int) + 10 < n
        · go_wp2_with fail
          refine (awake_any _ (T.out.below hb03)).mono ?_
          rintro e w4 ⟨rfl, rfl⟩
          go_wp2
          go_ret
          exact ⟨rfl, hb03⟩
        · obtain ⟨c, hc⟩ : ∃ c : Nat, c = n.toNat := ⟨_, rfl⟩
          have hcn : n = (c : Int) := by omega
          have SC3 := SC2 c
          rw [CUT.out c (by omega) (by omega)] at SC3
          clear SC2 CUT
          have W3 : IntKind.i64.wrap ((F.length : Int) - n) = ((F.length - c : Nat) : Int) := by rw [IntWalk.i64_in _ (by omega)]; omega
          have W4 : IntKind.i64.wrap ((F.length : Int) - (z.length : Int)) = ((F.length - z.length : Nat) : Int) := by rw [IntWalk.i64_in _ (by omega)]; omega
          have W5 : IntKind.i64.wrap (((F.length - z.length : Nat) : Int) - 10) = ((F.length - z.length - 10 : Nat) : Int) := by rw [IntWalk.i64_in _ (by omega)]; omega
          have E := TK (F.length - c)
          have hFc : F.length - c ≤ F.length := by omega
          clear TK hcn hc
          go_wp2_with fail
          refine (SC3 _ (T.out.below hb03) (BT.out.below hb03)).out.mono ?_
          rintro e w4 ⟨v4, rfl, ho4, hb4⟩
          have hb04 := below2 hb03 hb4
          clear SC3 hcl3
          go_wp2_with fail
          refine (TS2 _ _ _ ho4.rowlt (TKN.out _ (Row.belowL Hv.out hb04))).out.mono ?_
          rintro e w5 ⟨rfl, hb5⟩
          have hb05 := below2 hb04 hb5
          have hcl5 : w5.cell? ⟨b, off + ((xs.length - 1)), none⟩ = some (.string ⟨z.toArray⟩) := (hb05.cell (p := ⟨b, off + ((xs.length - 1)), none⟩) (World.block_lt_of_cell? _ _ HCL.out)).trans HCL.out
          clear TS2 TKN ho4
          go_wp2_with fail
          refine (awake_any _ (T.out.below hb05)).mono ?_
          rintro e w6 ⟨rfl, rfl⟩
          go_wp2
          go_ret
          exact ⟨rfl, hb05⟩

set_option maxHeartbeats 800000 in
theorem frameBack_long (b off cap : Nat) (xs : List (List UInt8)) (n : Int) (hn0 : -9223372036854775808 ≤ n) (hn1 : n ≤ 9223372036854775807) (w : World)
    (hv : Row encT (· < w.heap.size) w (.slice (some ⟨b, off, none⟩) xs.length cap) xs) (h20 : 20 < xs.length) (hbig : xs.length ≤ 140737488351232) (hcap : xs.length ≤ cap) (hcap2 : cap ≤ 9223372036854775807) (ht : Tab w) (hT : BTab w) (FI : FirstSpec) :
    Calls Tryd.prog 8 #[.slice (some ⟨b, off, none⟩) xs.length cap, .int .i64 n] w fun e w' => e = .returned (.bool true) ∧ Below w.heap.size w w' := by
  have A := Lib.hid (awake_any w ht)
  have T := Lib.hid ht
  have BT := Lib.hid hT
  have Hv := Lib.hid (Row.takeN hv 20 cap (by omega))
  obtain ⟨ys, hys⟩ : ∃ ys, ys = xs.take 20 := ⟨_, rfl⟩
  have hy20 : ys.length = 20 := by rw [hys, List.length_take]; omega
  have h0 : 0 < ys.length := by omega
  rw [← hys] at Hv
  have hc : ∀ i (h : i < ys.length), w.cell? ⟨b, off + i, none⟩ = some (encT ys[i]) := fun i hi => by
    obtain ⟨a, c, hv, hc⟩ := Hv.out
    obtain ⟨b2, off2, ha, _, hcell⟩ := hc i hi
    simp at hv
    obtain ⟨rfl, _⟩ := hv
    simp at ha
    obtain ⟨rfl, rfl⟩ := ha
    exact hcell
  have HC := Lib.hid hc; clear hc hys
  clear hv ht hT
  have c20 : 20 ≤ cap := by omega
  have c20i : (20 : Int) ≤ (cap : Int) := by omega
  go_enter Tryd.func8, Tryd.ntmps8
  go_wp2_with fail
  go_loopw [5] (fun i wr => ∃ k : Nat, k ≤ 20 ∧ i = .int .i64 k ∧ wr = w ∧ ∀ j (h : j < ys.length), j < k → ys[j].length ≤ 500)
    (fun i _ => 20 - (intOf i).toNat)
  case atStart => exact ⟨0, by omega, rfl, rfl, fun j _ h => absurd h (by omega)⟩
  case round =>
    obtain ⟨k, hk, rfl, rfl, hfor⟩ := hrel
    have Hfor := Lib.hid hfor; clear hfor
    by_cases hlt : k < 20
    · have hlt2 : k < ys.length := by omega
      have hcell : wr.cell? ⟨b, off + k, none⟩ = some (.string ⟨(ys[k]'hlt2).toArray⟩) := HC.out k hlt2
      obtain ⟨y, hyk⟩ : ∃ y, ys[k]'hlt2 = y := ⟨_, rfl⟩
      rw [hyk] at hcell
      have Hyk := Lib.hid hyk; clear hyk
      have L := Lib.hid (show (⟨y.toArray⟩ : ByteArray).size = y.length from rfl)
      by_cases h5 : 500 < y.length
      · go_wp2_with fail
        refine A.out.mono ?_
        rintro e w1 ⟨rfl, rfl⟩
        go_wp2
        go_ret
        exact ⟨rfl, Below.refl _ _⟩
      · go_wp2_with fail
        go_roundw
        case rel =>
          refine ⟨k + 1, by omega, by go_num, trivial, fun j hj hjk => ?_⟩
          by_cases hj' : j < k
          · exact Hfor.out j hj hj'
          · obtain rfl : j = k := by omega
            rw [Hyk.out]; omega
        case measure => simp [intOf]; omega
    · have hall : ∀ y ∈ ys, y.length ≤ 500 := by
        intro y hy
        obtain ⟨j, hj, rfl⟩ := List.mem_iff_getElem.1 hy
        exact Hfor.out j hj (by omega)
      clear Hfor
      have hall2 : ∀ x ∈ ys, x.length ≤ 65536 := fun x h => by have := hall x h; omega
      have ALL := Lib.hid (all_any _ ys wr Hv.out (by omega) (fun x h => by have := hall x h; omega) T.out)
      have ea : allS ys = (framesB ys, 0) := by unfold allS; rw [if_pos hall2]
      rw [ea] at ALL
      clear ea
      have hfl := framesB_len500 ys hall
      have SC := fun w' (ht : Tab w') (hT : BTab w') => Lib.hid (scan_go (framesB ys) w' FI (by omega) ht hT hT.1)
      rw [scanS_frames ys hall2] at SC
      have CUT := Lib.hid (frames_cut2 ys 19 hall (by omega) (by omega) _ rfl)
      have SC2 := fun (c : Nat) w' (ht : Tab w') (hT : BTab w') => Lib.hid (scan_go ((framesB ys).take ((framesB ys).length - c)) w' FI (by rw [List.length_take]; omega) ht hT hT.1)
      have L := Lib.hid (show (⟨(framesB ys).toArray⟩ : ByteArray).size = (framesB ys).length from rfl)
      have TK := fun k => take_toArray (framesB ys) k
      have hlast : 19 < ys.length := by omega
      have hy500 := hall _ (List.getElem_mem hlast)
      have hcl : wr.cell? ⟨b, off + (19), none⟩ = some (.string ⟨(ys[19]'hlast).toArray⟩) := HC.out _ hlast
      have e1 : (framesB ys).length ≥ (ys[19]'hlast).length + 10 := by
        have h1 : ys = ys.take (19) ++ [ys[19]'hlast] := by
          rw [← List.take_succ_eq_append_getElem hlast, List.take_of_length_le (by omega)]
        have h2 := congrArg (fun z => (framesB z).length) h1
        simp only [framesB_append, List.length_append] at h2
        have h3 : (framesB [ys[19]'hlast]).length = (ys[19]'hlast).length + 10 := by simp [framesB, frameB_length]
        omega
      clear hall hall2
      generalize ys[19]'hlast = z at *
      generalize hF : framesB ys = F at *
      have L2 := Lib.hid (show (⟨z.toArray⟩ : ByteArray).size = z.length from rfl)
      have hF65 : F.length ≤ 10200 := by omega
      have HCL := Lib.hid hcl; clear hcl
      clear hfl hF
      have TS := fun w' u v hu hv => Lib.hid (texts_same w' u v ys hu hv (by omega))
      have TS2 := fun w' u v hu hv => Lib.hid (texts_same w' u v (ys.take (19)) hu hv (by rw [List.length_take]; omega))
      have TKN := Lib.hid (fun w' (hv : Row encT (· < w'.heap.size) w' (.slice (some ⟨b, off, none⟩) 20 cap) ys) => Row.takeM hv (by omega) (19) cap (by omega))
      go_wp2_with fail
      refine ALL.out.mono ?_
      rintro e w1 ⟨rfl, hb1⟩
      clear ALL
      go_wp2_with fail
      refine (SC _ (T.out.below hb1) (BT.out.below hb1)).out.mono ?_
      rintro e w2 ⟨v, rfl, ho, hb2⟩
      have hb02 := below2 hb1 hb2
      clear SC
      go_wp2_with fail
      refine (TS _ _ _ (Row.belowL Hv.out hb02) ho.rowlt).out.mono ?_
      rintro e w3 ⟨rfl, hb3⟩
      have hb03 := below2 hb02 hb3
      clear TS ho
      have hcl3 : w3.cell? ⟨b, off + (19), none⟩ = some (.string ⟨z.toArray⟩) := (hb03.cell (p := ⟨b, off + (19), none⟩) (World.block_lt_of_cell? _ _ HCL.out)).trans HCL.out
      have W1 : IntKind.i64.wrap 19 = 19 := by decide
      have W2 : IntKind.i64.wrap ((z.length : Int) + 10) = (z.length : Int) + 10 := IntWalk.i64_in _ (by omega)
      by_cases hc1 : n < 1
      · go_wp2_with fail
        refine (awake_any _ (T.out.below hb03)).mono ?_
        rintro e w4 ⟨rfl, rfl⟩
        go_wp2
        go_ret
        exact ⟨rfl, hb03⟩
      · by_cases hc2 : (z.length : Int) + 10 < n
        · go_wp2_with fail
          refine (awake_any _ (T.out.below hb03)).mono ?_
          rintro e w4 ⟨rfl, rfl⟩
          go_wp2
          go_ret
          exact ⟨rfl, hb03⟩
        · obtain ⟨c, hc⟩ : ∃ c : Nat, c = n.toNat := ⟨_, rfl⟩
          have hcn : n = (c : Int) := by omega
          have SC3 := SC2 c
          rw [CUT.out c (by omega) (by omega)] at SC3
          clear SC2 CUT
          have W3 : IntKind.i64.wrap ((F.length : Int) - n) = ((F.length - c : Nat) : Int) := by rw [IntWalk.i64_in _ (by omega)]; omega
          have W4 : IntKind.i64.wrap ((F.length : Int) - (z.length : Int)) = ((F.length - z.length : Nat) : Int) := by rw [IntWalk.i64_in _ (by omega)]; omega
          have W5 : IntKind.i64.wrap (((F.length - z.length : Nat) : Int) - 10) = ((F.length - z.length - 10 : Nat) : Int) := by rw [IntWalk.i64_in _ (by omega)]; omega
          have E := TK (F.length - c)
          have hFc : F.length - c ≤ F.length := by omega
          clear TK hcn hc
          go_wp2_with fail
          refine (SC3 _ (T.out.below hb03) (BT.out.below hb03)).out.mono ?_
          rintro e w4 ⟨v4, rfl, ho4, hb4⟩
          have hb04 := below2 hb03 hb4
          clear SC3 hcl3
          go_wp2_with fail
          refine (TS2 _ _ _ ho4.rowlt (TKN.out _ (Row.belowL Hv.out hb04))).out.mono ?_
          rintro e w5 ⟨rfl, hb5⟩
          have hb05 := below2 hb04 hb5
          have hcl5 : w5.cell? ⟨b, off + (19), none⟩ = some (.string ⟨z.toArray⟩) := (hb05.cell (p := ⟨b, off + (19), none⟩) (World.block_lt_of_cell? _ _ HCL.out)).trans HCL.out
          clear TS2 TKN ho4
          go_wp2_with fail
          refine (awake_any _ (T.out.below hb05)).mono ?_
          rintro e w6 ⟨rfl, rfl⟩
          go_wp2
          go_ret
          exact ⟨rfl, hb05⟩

set_option maxHeartbeats 400000 in
theorem frameBack_nil (a : Option Addr) (cap : Nat) (n : Int) (w : World) (ht : Tab w) (hT : BTab w) (FI : FirstSpec) :
    Calls Tryd.prog 8 #[.slice a 0 cap, .int .i64 n] w fun e w' => e = .returned (.bool true) ∧ Below w.heap.size w w' := by
  have hv : ∀ w : World, Row encT (· < w.heap.size) w (.slice a 0 cap) [] := fun w => ⟨a, cap, rfl, fun i h => absurd h (by simp)⟩
  have T := Lib.hid ht
  have BT := Lib.hid hT
  have ALL := Lib.hid (all_any _ [] w (hv w) (by simp) (by simp) ht)
  rw [show allS [] = ([], 0) from rfl] at ALL
  have SC := fun w' (ht : Tab w') (hT : BTab w') => Lib.hid (scan_go [] w' FI (by simp) ht hT hT.1)
  rw [show scanS [] = ([], 0, 0) from scanS_frames [] (by simp)] at SC
  have TS := fun w' u v hu hv => Lib.hid (texts_same w' u v [] hu hv (by simp))
  have Hv := Lib.hid hv
  clear ht hT hv
  go_enter Tryd.func8, Tryd.ntmps8
  go_wp2
  refine wp_loop_rounds 1 ?_
  rw [rounds_succ]
  go_wp2_with fail
  refine ALL.out.mono ?_
  rintro e w1 ⟨rfl, hb1⟩
  go_wp2_with fail
  refine (SC _ (T.out.below hb1) (BT.out.below hb1)).out.mono ?_
  rintro e w2 ⟨v, rfl, ho, hb2⟩
  have hb02 := below2 hb1 hb2
  go_wp2_with fail
  refine (TS _ _ _ (Hv.out _) ho.rowlt).out.mono ?_
  rintro e w3 ⟨rfl, hb3⟩
  have hb03 := below2 hb02 hb3
  go_wp2_with fail
  refine (awake_any _ (T.out.below hb03)).mono ?_
  rintro e w4 ⟨rfl, rfl⟩
  go_wp2
  go_ret
  exact ⟨rfl, hb03⟩

theorem frameBack_go (v : Value) (xs : List (List UInt8)) (n : Int) (hn0 : -9223372036854775808 ≤ n) (hn1 : n ≤ 9223372036854775807) (w : World) (hv : Row encT (· < w.heap.size) w v xs) (hbig : xs.length * 16 ≤ 140737488351232)
    (hcap : ∀ a m c, v = .slice a m c → m ≤ c ∧ c ≤ maxLen) (ht : Tab w) (hT : BTab w) (FI : FirstSpec) :
    Calls Tryd.prog 8 #[v, .int .i64 n] w fun e w' => e = .returned (.bool true) ∧ Below w.heap.size w w' := by
  have hv0 := hv
  rcases hv.cases with ⟨rfl, a, cap, rfl⟩ | ⟨b, off, cap, rfl, _, _⟩
  · exact frameBack_nil a cap n w ht hT FI
  · obtain ⟨h1, h2⟩ := hcap _ _ _ rfl
    by_cases h : xs.length ≤ 20
    · by_cases h0 : xs.length = 0
      · rw [h0]
        exact frameBack_nil _ cap n w ht hT FI
      · exact frameBack_mid b off cap xs n hn0 hn1 w hv0 (by omega) h h1 ht hT FI
    · exact frameBack_long b off cap xs n hn0 hn1 w hv0 (by omega) (by omega) h1 (by unfold maxLen at h2; omega) ht hT FI

end Go.Proofs.YtjgoceebjmnjcaaDoor
