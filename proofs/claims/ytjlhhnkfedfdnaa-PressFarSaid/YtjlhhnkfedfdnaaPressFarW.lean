/- The walk of the law PressFar. -/
import Derived.Test.YtjlhhnkfedfdnaaAddNumsW
import Derived.Test.YtjlhhnkfedfdnaaCells
import Derived.Test.YtjlhhnkfedfdnaaFrame
import Derived.Test.YtjlhhnkfedfdnaaGen
import Derived.Test.YtjlhhnkfedfdnaaInfos
import Derived.Test.YtjlhhnkfedfdnaaMarkMath
import Derived.Test.YtjlhhnkfedfdnaaOwnL
import Derived.Test.YtjlhhnkfedfdnaaPressLawsW
import Derived.Test.YtjlhhnkfedfdnaaPressMath
import Derived.Test.YtjlhhnkfedfdnaaPressW
import Derived.Test.YtjlhhnkfedfdnaaReadMath
import Derived.Test.YtjlhhnkfedfdnaaReadW
import Derived.Test.YtjlhhnkfedfdnaaRefNumW
import Derived.Test.YtjlhhnkfedfdnaaRefPrW
import Derived.Test.YtjlhhnkfedfdnaaRowB
import Derived.Test.YtjlhhnkfedfdnaaRows
import Derived.Test.YtjlhhnkfedfdnaaShelf
import Derived.BigQuiet
import Derived.Deep.Cut
import Derived.Deep.CutBlock
import Derived.Deep.DeepCutAuto
import Derived.Deep.QuietTactic
import Derived.Lib.Hide
import Derived.Lib.SlBytesConst
import Derived.StillTail
import Derived.StillTailTactics
import Derived.WalkKit
import Derived.WalkLawsBesides
import Derived.WalkSpells
set_option linter.unusedVariables false
namespace Go.Proofs.Ytjlhhnkfedfdnaa
open Go.RowKit

theorem RowB.str {P : Program} {w : World} {base : Nat} {v : Value} {l : Txt} {src dst e : TypeId} (h : RowB w base v l) (hs : P.underlying src = some (.slice e)) (he : P.underlying e = some (.int .u8)) (hd : P.underlying dst = some .string) :
    (convert src dst v).run P w = .ok (.string ⟨l.toArray⟩) w := by
  obtain ⟨g, cap, rfl, h1, h2, h3, h4, h5⟩ := h
  refine run_convert_bytes_back w src dst e ⟨g, 0, none⟩ cap l hs he hd ?_
  intro j hj
  have := h4 j hj
  rw [addr_add0]
  simpa [encB] using this
def l16 : Txt := [48, 49, 50, 51, 52, 53, 54, 55, 56, 57, 97, 98, 99, 100, 101, 102]
theorem row16 (w : World) : RowB (w.alloc (.cells (cellsOf l16).toArray 5 (16, 17))) w.heap.size (.slice (some ⟨w.heap.size, 0, none⟩) 16 16) l16 := by
  have hh : (w.alloc (.cells (cellsOf l16).toArray 5 (16, 17))).heap[w.heap.size]? = some (.cells (cellsOf l16).toArray 5 (16, 17)) := by
    show (w.heap.push _)[w.heap.size]? = _
    simp
  refine ⟨w.heap.size, 16, rfl, Nat.le_refl _, (Array.getElem?_eq_some_iff.1 hh).1, by decide, ?_, fun j hj hc => ?_⟩
  · intro i hi
    simp only [World.cell?, hh, Nat.zero_add]
    simp [cellsOf, encB, hi]
  · have : l16.length = 16 := rfl
    omega
theorem RowB.take {w : World} {base g len cap : Nat} {l : Txt} (h : RowB w base (.slice (some ⟨g, 0, none⟩) len cap) l) (n : Nat) (hn : n ≤ l.length) (P : Program) (src dst e : TypeId) (hs : P.underlying src = some (.slice e)) (he : P.underlying e = some (.int .u8)) (hd : P.underlying dst = some .string) :
    (convert src dst (.slice (some ⟨g, 0, none⟩) n cap)).run P w = .ok (.string ⟨(l.take n).toArray⟩) w := by
  obtain ⟨g', cap', hv, h1, h2, h3, h4, h5⟩ := h
  injection hv with e1 e2 e3
  injection e1 with e1
  injection e1 with e4
  subst e4
  have hl : (l.take n).length = n := by rw [List.length_take]; omega
  have key := run_convert_bytes_back (P := P) w src dst e ⟨g, 0, none⟩ cap (l.take n) hs he hd (fun j hj => by
    have := h4 j (by omega)
    rw [addr_add0]
    simpa [encB] using this)
  rw [hl] at key
  exact key
set_option maxRecDepth 100000 in
set_option maxHeartbeats 1000000 in
theorem pressFar_walk (gap : Int) (g0 : -9223372036854775808 ≤ gap) (g1 : gap ≤ 9223372036854775807) (seed : Int) (s0 : -9223372036854775808 ≤ seed) (s1 : seed ≤ 9223372036854775807) (w : World) :
    Calls Try.prog 4 #[.int .i64 gap, .int .i64 seed] w fun e w' => e = .returned (.bool true) ∧ Below w.heap.size w w' := by
  by_cases hm : gap < 4000 ∨ 4200 < gap
  · have hc : gap < 4000 ∨ (¬ gap < 4000 ∧ 4200 < gap) := by omega
    clear hm
    rcases hc with c1 | ⟨c1, c2⟩
    all_goals
      go_enter Try.func4, Try.ntmps4
      go_wp2_with fail
      refine (awake8_any _).mono ?_
      rintro e w3 ⟨rfl, hb3⟩
      go_wp2_with fail
      go_ret
      exact ⟨rfl, hb3⟩
  · have c1 : ¬ gap < 4000 := fun h => hm (.inl h)
    have c2 : ¬ 4200 < gap := fun h => hm (.inr h)
    obtain ⟨n, hn⟩ : ∃ n : Nat, gap = (n : Int) := ⟨gap.toNat, by omega⟩
    subst hn
    have hnb : n ≤ 4200 := by omega
    clear hm
    have kc := fun (w : World) (C : Array Value) (n c : Nat) => Lib.run_convert_bytes_const (P := Try.prog) w 28 5 C n c Try.underlying28 Try.underlying5
    have HR0 := Lib.hid (row16 w)
    have HB0 := Lib.hid (show Below w.heap.size w (w.alloc (.cells (cellsOf l16).toArray 5 (16, 17))) from (Below.refl _ _).alloc (Nat.le_refl _) _)
    obtain ⟨c, hcc⟩ : ∃ c : UInt8, c = UInt8.ofNat (seed % 256).toNat := ⟨_, rfl⟩
    have HCC := Lib.hid (show seed % 256 = ((c.toNat : Nat) : Int) by rw [hcc, UInt8.toNat_ofNat']; omega)
    clear hcc
    go_enter Try.func4, Try.ntmps4
    go_wp2_with fail
    go_loopw [5, 6] (fun v5 i wr => ∃ k : Nat, k ≤ n ∧ i = .int .i64 k ∧ RowB wr w.heap.size v5 (l16 ++ List.replicate k c) ∧ Below w.heap.size w wr) (fun _ i _ => n - (intOf i).toNat)
    case atStart => exact ⟨0, by omega, rfl, by rw [List.replicate_zero, List.append_nil]; exact HR0.out, HB0.out⟩
    case round =>
      clear HR0 HB0 kc
      obtain ⟨k, hk, rfl, hrow, hbel⟩ := hrel
      have HR := Lib.hid hrow
      have HB := Lib.hid hbel
      clear hrow hbel
      by_cases hlt : k < n
      · have i1 : (k : Int) < (n : Int) := by omega
        have hll : (l16 ++ List.replicate k c).length ≤ 5000 := by rw [List.length_append, List.length_replicate]; have : l16.length = 16 := rfl; omega
        have hcc := HCC.out
        have HNX := Lib.hid (show l16 ++ List.replicate (k + 1) c = l16 ++ List.replicate k c ++ [c] by rw [List.replicate_succ', List.append_assoc])
        generalize l16 ++ List.replicate k c = L at *
        obtain ⟨va, vm, vc, hv⟩ : ∃ a m cc, u5 = .slice a m cc := by
          obtain ⟨g, cap, rfl, _⟩ := HR.out
          exact ⟨_, _, _, rfl⟩
        subst hv
        go_wp2_with (at_builtin; refine append_rowB (w := wr) (by rfl) (.tmp 26) (.tmp 29) 28 5 (by rfl) Try.underlying28 info_u8 w.heap.size _ L _ c (by first | rfl | exact HCC.out) (by rfl) HR.out (by rfl) (by omega) HB.out.size ?_; intro v' w7 hrow7 hb7; have HR7 := Lib.hid hrow7; have HB7 := Lib.hid (HB.out.trans hb7); clear hrow7 hb7)
        go_roundw
        case rel => exact ⟨k + 1, by omega, by go_num, by rw [HNX.out]; exact HR7.out, HB7.out⟩
        case measure => simp [intOf]; omega
      · obtain rfl : k = n := by omega
        have i1 : ¬ (k : Int) < (k : Int) := by omega
        obtain ⟨L, hL⟩ : ∃ L, L = l16 ++ List.replicate k c := ⟨_, rfl⟩
        have hll : L.length = k + 16 := by rw [hL, List.length_append, List.length_replicate]; have : l16.length = 16 := rfl; omega
        rw [← hL] at HR
        have hl16 : 16 ≤ L.length := by omega
        have hl5 : L.length ≤ 4216 := by omega
        clear hL hll
        obtain ⟨g, cap, hv, _⟩ := HR.out
        subst hv
        have CV := fun nq => show (convert 28 9 (.slice (some ⟨g, 0, none⟩) L.length cap)).run Try.prog (wr.drewN nq) = .ok (.string ⟨L.toArray⟩) (wr.drewN nq) from RowB.str (base := w.heap.size) (HR.out.new (Below_drewN (Below.refl _ _) nq) (Nat.le_refl _)) Try.underlying28 Try.underlying5 Try.underlying9
        have CT := fun nq => RowB.take (base := w.heap.size) (w := wr.drewN nq) (HR.out.new (Below_drewN (Below.refl _ _) nq) (Nat.le_refl _)) 16 (by omega) Try.prog 28 9 5 Try.underlying28 Try.underlying5 Try.underlying9
        have hcap : L.length ≤ cap := by
          obtain ⟨_, _, hv, _, _, h, _⟩ := HR.out
          injection hv with _ _ e
          rw [e]; exact h
        have j1 : (16 : Int) ≤ (cap : Int) := by omega
        have JS := Lib.hid (joinS L (L.take 16))
        have hl2 : (L ++ L.take 16).length ≤ 5000 := by rw [List.length_append, List.length_take]; omega
        have k1 : ¬ 9223372036854775807 < L.length + (L.take 16).length := by rw [List.length_take]; omega
        have PA := fun w' => Lib.hid (press_any (L ++ L.take 16) w' (by omega))
        have RA := fun w' => Lib.hid (refPress_any (L ++ L.take 16) w' (by omega))
        generalize pressS (L ++ L.take 16) = p at *
        rw [← JS.out] at PA RA
        have hpp : (p == p) = true := by simp
        go_wp2_with fail
        go_quiet (fail)
        have HB8 := Lib.hid (Below_drewN HB.out nq)
        clear CV CT
        generalize wr.drewN nq = w8 at *
        go_wp2_with fail
        refine (PA _).out.mono ?_
        rintro e w1 ⟨rfl, hb1⟩
        have HB1 := Lib.hid (HB8.out.trans (hb1.mono HB8.out.size))
        clear hb1
        go_wp2_with fail
        refine (RA _).out.mono ?_
        rintro e w2 ⟨rfl, hb2⟩
        have HB2 := Lib.hid (HB1.out.trans (hb2.mono HB1.out.size))
        clear hb2
        go_wp2_with fail
        refine (awake8_any _).mono ?_
        rintro e w3 ⟨rfl, hb3⟩
        have HB3 := Lib.hid (HB2.out.trans (hb3.mono HB2.out.size))
        go_wp2_with fail
        go_ret
        exact ⟨rfl, HB3.out⟩
end Go.Proofs.Ytjlhhnkfedfdnaa
