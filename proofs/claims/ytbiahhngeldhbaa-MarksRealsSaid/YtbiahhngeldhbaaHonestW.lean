/- The walk of the law MarksHonest. -/
import Derived.Test.YtbiahhngeldhbaaAsksW
import Derived.Deep.DeepCutAuto
import Derived.Deep.CutBlock
set_option linter.unusedVariables false
namespace Go.Proofs.Ytbiahhngeldhbaa
open Go.RowKit

theorem wasS_step (ys : List Txt) (s m : Txt) (k : Nat) (hk : k < ys.length) (y : Txt) (hy : ys[k] = y) (b : Bool) (hb : wasS ys s m k = b) :
    wasS ys s m (k + 1) = (b || ((y == s) && (numM (noS (seenS (ys.take k)) y) == m))) := by
  have e : ys.getD k [] = y := by simp [List.getD_eq_getElem?_getD, hk, hy]
  rw [wasS, e, hb]
  congr 1
  rw [Bool.eq_iff_iff]
  simp
theorem wasS_end (ys : List Txt) (s m : Txt) (n : Nat) (hn : ys.length = n) : wasS ys s m n = isS (seenS ys) s m := by subst hn; rw [wasS_is]
theorem cells_take {w : World} {b off : Nat} {xs : List Txt} (h : ∀ i (h : i < xs.length), w.cell? ⟨b, off + i, none⟩ = some (encT xs[i])) (n : Nat) :
    ∀ i (h : i < (xs.take n).length), w.cell? ⟨b, off + i, none⟩ = some (encT (xs.take n)[i]) := by
  intro i hi
  rw [List.getElem_take]
  exact h i (by rw [List.length_take] at hi; omega)

set_option maxRecDepth 100000 in
set_option maxHeartbeats 1600000 in
theorem marksHonest_walk (v : Value) (xs : List Txt) (s : Txt) (hs : s.length ≤ 140737488351232) (m : Txt) (hm : m.length ≤ 140737488351232) (w : World) (hv : Texts w v xs) :
    Calls Try.prog 7 #[v, .string ⟨s.toArray⟩, .string ⟨m.toArray⟩] w fun e w' => e = .returned (.bool true) ∧ Below w.heap.size w w' := by
  have each := hv.each
  have Each := Lib.hid each; clear each
  have hlen := hv.len
  rcases hv.cases with ⟨rfl, a, cap, rfl⟩ | ⟨b, off, cap, rfl, hcap, hb, hc⟩
  · have IS := fun w' p bm h => Lib.hid (is_ideal w' p bm [] s m h hs (by decide))
    have e0 : isS [] s m = false := by simp [isS]
    rw [e0] at IS
    clear e0
    go_enter Try.func7, Try.ntmps7
    go_wp2_with fail
    refine (ideal_any _).mono ?_
    rintro e w1 ⟨p, bm, rfl, hid1, hp, hbm, hb1⟩
    have HI := Lib.hid hid1; clear hid1
    go_wp2_with fail
    refine wp_loop_rounds 1 ?_
    rw [rounds_succ]
    go_wp2_with fail
    refine (IS _ _ _ HI.out).out.mono ?_
    rintro e w3 ⟨rfl, hb3⟩
    go_wp2_with fail
    refine (awake_any _).mono ?_
    rintro e w5 ⟨rfl, hb5⟩
    go_wp2
    go_ret
    have b3 := hb1.trans (hb3.mono hb1.size)
    exact ⟨rfl, b3.trans (hb5.mono b3.size)⟩
  · obtain ⟨ys, hys⟩ : ∃ ys, ys = xs.take 40 := ⟨_, rfl⟩
    obtain ⟨n, hn⟩ : ∃ n, n = ys.length := ⟨_, rfl⟩
    have hn2 : n = min 40 xs.length := by rw [hn, hys, List.length_take]
    have hcy := cells_take hc 40
    rw [← hys] at hcy
    have HC := Lib.hid hcy; clear hcy hc
    have EachY := Lib.hid (fun y (h : y ∈ ys) => Each.out y (List.mem_of_mem_take (by rw [← hys]; exact h)))
    have HN := Lib.hid hn.symm; clear hn hys
    have HN2 := Lib.hid hn2
    have n40 : n ≤ 40 := by omega
    clear hn2
    go_enter Try.func7, Try.ntmps7
    go_upto_if 13 with (fail)
    go_cut [0] (fun s0 wx => ∃ c, s0 = .slice (some ⟨b, off, none⟩) n c ∧ wx = w)
    case first =>
      by_cases h40 : 40 < xs.length
      · go_wp2_with fail
        go_meet
        have e : n = 40 := by have := HN2.out; omega
        exact ⟨_, by rw [e], rfl⟩
      · go_wp2_with fail
        go_meet
        have e : n = xs.length := by have := HN2.out; omega
        exact ⟨_, by rw [e], rfl⟩
    case rest =>
      obtain ⟨c, rfl, rfl⟩ := hcut
      go_wp2_with fail
      refine (ideal_any _).mono ?_
      rintro e w1 ⟨p, bm, rfl, hid1, hp, hbm, hb1⟩
      have HI := Lib.hid hid1; clear hid1
      go_wp2_with fail
      go_loopw [8, 9] (fun u i wr => ∃ k : Nat, k ≤ n ∧ i = .int .i64 k ∧ u = .bool (wasS ys s m k) ∧ IdealAt wr p bm (seenS (ys.take k)) ∧ Below wc.heap.size wc wr) (fun _ i _ => n - (intOf i).toNat)
      case atStart => exact ⟨0, by omega, rfl, rfl, HI.out, hb1⟩
      case round =>
        obtain ⟨k, hk, rfl, rfl, hid, hbel⟩ := hrel
        have HI := Lib.hid hid; clear hid
        have hbw := hbel.size
        by_cases hlt : k < n
        · have hky : k < ys.length := by rw [HN.out]; exact hlt
          have hcell : wr.cell? ⟨b, off + k, none⟩ = some (encT ys[k]) := (hbel.cell (p := ⟨b, off + k, none⟩) hb).trans (HC.out k hky)
          have hxk := EachY.out _ (List.getElem_mem hky)
          have Sk := Lib.hid (seenS_take ys k hky)
          obtain ⟨b0, hb0⟩ : ∃ b0, wasS ys s m k = b0 := ⟨_, rfl⟩
          obtain ⟨y, hy⟩ : ∃ y, ys[k] = y := ⟨_, rfl⟩
          have Ws := Lib.hid (wasS_step ys s m k hky y hy b0 hb0)
          rw [hy] at Sk hcell hxk
          rw [hb0]
          clear hb0 hy hky
          have hsl := seenS_length (ys.take k)
          have hsl2 : (seenS (ys.take k)).length ≤ 1000000 := by rw [List.length_take] at hsl; omega
          have MK := Lib.hid (mark_ideal wr p bm (seenS (ys.take k)) y HI.out hxk hsl2)
          generalize numM (noS (seenS (ys.take k)) y) = mk at *
          clear hsl hsl2
          go_wp2_with fail
          refine MK.out.mono ?_
          rintro e w2 ⟨rfl, hid2, hk2⟩
          have B2 := hbel.trans (below_only hk2 hbw hbm)
          have hcell2 : w2.cell? ⟨b, off + k, none⟩ = some (encT y) := (below_only hk2 (B := wc.heap.size) hbw hbm).cell (p := ⟨b, off + k, none⟩) hb |>.trans hcell
          have HI2 := Lib.hid hid2; clear hid2 hcell
          cases b0 with
          | true =>
            go_wp2
            go_roundw
            case rel => exact ⟨k + 1, by omega, by go_num, by rw [Ws.out]; rfl, by rw [Sk.out]; exact HI2.out, B2⟩
            case measure => simp [intOf]; omega
          | false =>
            by_cases hys : y = s
            · have e1 : (y == s) = true := by simp [hys]
              rw [e1] at Ws
              clear hys
              go_wp2
              go_roundw
              case rel => exact ⟨k + 1, by omega, by go_num, by rw [Ws.out]; rfl, by rw [Sk.out]; exact HI2.out, B2⟩
              case measure => simp [intOf]; omega
            · have e1 : (y == s) = false := by simp [hys]
              rw [e1] at Ws
              clear hys
              go_wp2
              go_roundw
              case rel => exact ⟨k + 1, by omega, by go_num, by rw [Ws.out]; rfl, by rw [Sk.out]; exact HI2.out, B2⟩
              case measure => simp [intOf]; omega
        · have hkn : k = n := by omega
          have hidn := HI.out
          rw [hkn, show ys.take n = ys from List.take_of_length_le (by rw [HN.out]; omega)] at hidn
          rw [hkn, wasS_end ys s m n HN.out]
          have hsl := seenS_length ys
          rw [HN.out] at hsl
          have IS := Lib.hid (is_ideal wr p bm (seenS ys) s m hidn hs (by omega))
          generalize isS (seenS ys) s m = b0 at *
          clear hidn hsl hkn HI
          go_wp2_with fail
          refine IS.out.mono ?_
          rintro e w3 ⟨rfl, hb3⟩
          have hbb : (b0 == b0) = true := by simp
          go_wp2_with fail
          refine (awake_any _).mono ?_
          rintro e w5 ⟨rfl, hb5⟩
          go_wp2
          go_ret
          have b3 := hbel.trans (hb3.mono hbel.size)
          exact ⟨rfl, b3.trans (hb5.mono b3.size)⟩
end Go.Proofs.Ytbiahhngeldhbaa
