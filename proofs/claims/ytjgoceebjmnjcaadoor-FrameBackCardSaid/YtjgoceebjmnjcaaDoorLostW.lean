/- The walk of the law FrameLost. -/
import Derived.Test.YtjgoceebjmnjcaaDoorTextsW
import Derived.Test.YtjgoceebjmnjcaaDoorScanMath
set_option linter.unusedVariables false
namespace Go.Proofs.YtjgoceebjmnjcaaDoor
open Go.RowKit

theorem own_one {w : World} {base : Nat} {v : Value} {x : List UInt8} (h : OwnL encT w base 9 v [x]) : ∃ g cap, v = .slice (some ⟨g, 0, none⟩) 1 cap ∧ w.cell? ⟨g, 0, none⟩ = some (.string ⟨x.toArray⟩) := by
  obtain ⟨a, cap, rfl, hc⟩ := h.row
  obtain ⟨b, off, rfl, _, hcell⟩ := hc 0 (by simp)
  rcases h.2 with ⟨hv, _⟩ | ⟨g, c, cur, hv, _⟩
  · cases hv
  · simp at hv
    obtain ⟨⟨rfl, rfl⟩, rfl⟩ := hv
    exact ⟨_, _, rfl, hcell⟩

set_option maxHeartbeats 400000 in
theorem frameLost_long (ns x : List UInt8) (hn : ns.length ≤ 140737488351232) (hx : x.length ≤ 140737488351232) (h : 500 < ns.length ∨ 500 < x.length) (w : World) (ht : Tab w) :
    Calls Tryd.prog 11 #[.string ⟨ns.toArray⟩, .string ⟨x.toArray⟩] w fun e w' => e = .returned (.bool true) ∧ Below w.heap.size w w' := by
  have L := Lib.hid (show (⟨ns.toArray⟩ : ByteArray).size = ns.length from rfl)
  have L2 := Lib.hid (show (⟨x.toArray⟩ : ByteArray).size = x.length from rfl)
  have A := Lib.hid (awake_any w ht)
  by_cases h1 : 500 < ns.length
  · clear h
    go_enter Tryd.func11, Tryd.ntmps11
    go_wp2_with fail
    refine A.out.mono ?_
    rintro e w1 ⟨rfl, rfl⟩
    go_wp2
    go_ret
    exact ⟨rfl, Below.refl _ _⟩
  · have h2 : 500 < x.length := by omega
    clear h
    go_enter Tryd.func11, Tryd.ntmps11
    go_wp2_with fail
    refine A.out.mono ?_
    rintro e w1 ⟨rfl, rfl⟩
    go_wp2
    go_ret
    exact ⟨rfl, Below.refl _ _⟩

set_option maxHeartbeats 800000 in
theorem frameLost_go (ns : List UInt8) (hn : ns.length ≤ 140737488351232) (x : List UInt8) (hx : x.length ≤ 140737488351232) (w : World) (ht : Tab w) (hT : BTab w) (FI : FirstSpec) :
    Calls Tryd.prog 11 #[.string ⟨ns.toArray⟩, .string ⟨x.toArray⟩] w fun e w' => e = .returned (.bool true) ∧ Below w.heap.size w w' := by
  by_cases h : 500 < ns.length ∨ 500 < x.length
  · exact frameLost_long ns x hn hx h w ht
  · have h1 : ns.length ≤ 500 := by omega
    have h2 : x.length ≤ 500 := by omega
    clear h hn hx
    have L := Lib.hid (show (⟨ns.toArray⟩ : ByteArray).size = ns.length from rfl)
    have L2 := Lib.hid (show (⟨x.toArray⟩ : ByteArray).size = x.length from rfl)
    have L3 := Lib.hid (show (⟨(frameB x).toArray⟩ : ByteArray).size = (frameB x).length from rfl)
    have A := Lib.hid (awake_any w ht)
    have F := Lib.hid (frame_ok x w (by omega) ht)
    have E := toArray_append ns (frameB x)
    have hfl := frameB_length x
    have SC := fun w' (ht : Tab w') (hT : BTab w') => Lib.hid (scan_go (ns ++ frameB x) w' FI (by rw [List.length_append, hfl]; omega) ht hT hT.1)
    have ML := Lib.hid (fun hn => scanS_lost ns x hn (by omega))
    have T := Lib.hid ht
    have BT := Lib.hid hT
    clear ht hT
    generalize frameB x = f at *
    go_enter Tryd.func11, Tryd.ntmps11
    go_wp2_with fail
    go_loopw [5] (fun i wr => ∃ k : Nat, k ≤ ns.length ∧ i = .int .i64 k ∧ wr = w ∧ ∀ j (h : j < ns.length), j < k → ns[j] ≠ 181)
      (fun i _ => ns.length - (intOf i).toNat)
    case atStart => exact ⟨0, by omega, rfl, rfl, fun j _ h => absurd h (by omega)⟩
    case round =>
      obtain ⟨k, hk, rfl, rfl, hfor⟩ := hrel
      have Hfor := Lib.hid hfor; clear hfor
      by_cases hlt : k < ns.length
      · obtain ⟨c, hc⟩ : ∃ c, c = ((⟨ns.toArray⟩ : ByteArray)[k]'hlt).toNat := ⟨_, rfl⟩
        have B1 : (0 : Int) ≤ (k : Int) := by omega
        by_cases h5 : c = 181
        · rw [h5] at hc
          clear h5 c
          have hc2 : ((⟨ns.toArray⟩ : ByteArray)[k]'hlt).toNat = 181 := hc.symm
          clear hc
          go_wp2_with fail
          refine A.out.mono ?_
          rintro e w1 ⟨rfl, rfl⟩
          go_wp2
          go_ret
          exact ⟨rfl, Below.refl _ _⟩
        · have Hne := Lib.hid (show ns[k] ≠ 181 from fun h => h5 (by rw [hc]; exact congrArg UInt8.toNat h))
          have hA : ((c : Int) == 181) = false := by simp; omega
          clear h5
          go_wp2_with fail
          go_roundw
          case rel =>
            refine ⟨k + 1, by omega, by go_num, trivial, fun j hj hjk => ?_⟩
            by_cases hj' : j < k
            · exact Hfor.out j hj hj'
            · obtain rfl : j = k := by omega
              exact Hne.out
          case measure => simp [intOf]; omega
      · have hall : ∀ y ∈ ns, y ≠ 181 := by
          intro y hy
          obtain ⟨j, hj, rfl⟩ := List.mem_iff_getElem.1 hy
          exact Hfor.out j hj (by omega)
        have M := ML.out hall
        clear Hfor hall ML
        have X1 : ¬ 9223372036854775807 < ns.length + f.length := by omega
        have W1 : IntKind.i64.wrap ((ns.length : Int) + (f.length : Int)) = ((ns.length + f.length : Nat) : Int) := by rw [IntWalk.i64_in _ (by omega)]; omega
        rw [M] at SC
        clear M
        go_wp2_with fail
        refine F.out.mono ?_
        rintro e w1 ⟨rfl, hb1⟩
        go_wp2_with fail
        refine (SC _ (T.out.below hb1) (BT.out.below hb1)).out.mono ?_
        rintro e w2 ⟨v, rfl, ho, hb2⟩
        obtain ⟨g, cap, rfl, hcell⟩ := own_one ho
        have hself := str_self x
        have hb := below2 hb1 hb2
        clear ho SC
        go_wp2_with fail
        refine (awake_any _ (T.out.below hb)).mono ?_
        rintro e w3 ⟨rfl, rfl⟩
        go_wp2
        go_ret
        exact ⟨rfl, hb⟩
end Go.Proofs.YtjgoceebjmnjcaaDoor
