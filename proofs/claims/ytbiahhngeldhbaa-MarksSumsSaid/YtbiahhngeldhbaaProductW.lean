/- The walk of the document's product. -/
import Derived.Test.YtbiahhngeldhbaaLimbMath
import Derived.Deep.OwnRows
set_option linter.unusedVariables false
namespace Go.Proofs.Ytbiahhngeldhbaa
open Go.RowKit

/-- Whole numbers as a block's cells. -/
def arrI (l : List Nat) : Array Value := (l.map fun x : Nat => Value.int .i64 (x : Int)).toArray
theorem arrI_size (l : List Nat) : (arrI l).size = l.length := by simp [arrI]
theorem arrI_get (l : List Nat) (k x : Nat) (h : l[k]? = some x) : (arrI l)[k]? = some (.int .i64 (x : Int)) := by
  unfold arrI
  simp [h]
theorem arrI_set (l : List Nat) (k x : Nat) : (arrI l).setIfInBounds k (.int .i64 (x : Int)) = arrI (l.set k x) := by
  unfold arrI
  rw [List.setIfInBounds_toArray, List.map_set]
/-- A row of whole numbers in block g. -/
def IntsAt (w : World) (g : Nat) (l : List Nat) : Prop := w.heap[g]? = some (.cells (arrI l) 3 (0, 0))
theorem IntsAt.cell {w : World} {g : Nat} {l : List Nat} (h : IntsAt w g l) (k x : Nat) (hx : l[k]? = some x) : w.cell? ⟨g, k, none⟩ = some (.int .i64 (x : Int)) := by
  rw [cell_of_row _ _ _ _ _ _ h]
  exact arrI_get _ _ _ hx
theorem IntsAt.frozen {w : World} {g : Nat} {l : List Nat} (h : IntsAt w g l) (k : Nat) : w.frozen? ⟨g, k, none⟩ = false := frozen_of_row w g k _ _ h
theorem IntsAt.set {w : World} {g : Nat} {l : List Nat} (h : IntsAt w g l) (k x : Nat) : IntsAt (w.setCell ⟨g, k, none⟩ (.int .i64 (x : Int))) g (l.set k x) := by
  unfold IntsAt
  rw [← arrI_set]
  exact heap_setCell_same w g k _ _ _ h
theorem IntsAt.lt {w : World} {g : Nat} {l : List Nat} (h : IntsAt w g l) : g < w.heap.size := (Array.getElem?_eq_some_iff.1 h).1
theorem IntsAt.new {w w' : World} {g : Nat} {l : List Nat} (h : IntsAt w g l) (hb : Below w.heap.size w w') : IntsAt w' g l := (hb.block g h.lt).trans h
theorem IntsAt.below {w w' : World} {g B : Nat} {l : List Nat} (h : IntsAt w g l) (hg : g < B) (hb : Below B w w') : IntsAt w' g l := (hb.block g hg).trans h
theorem made_zeros (n : Nat) : madeCells #[.int .i64 0] n = arrI (List.replicate n 0) := by
  obtain ⟨c, hc, hs, hg⟩ := World.rowIs_made (default : World) (.int .i64 0) n 3
  rw [heap_alloc_new] at hc
  obtain rfl : madeCells #[.int .i64 0] n = c := by
    have := Option.some.inj hc
    injection this
  apply Array.ext_getElem?
  intro i
  by_cases h : i < n
  · rw [hg i h, arrI_get _ i 0 (by simp [h])]
    rfl
  · rw [Array.getElem?_eq_none (by rw [hs]; omega), Array.getElem?_eq_none (by rw [arrI_size, List.length_replicate]; omega)]
theorem IntsAt.made (w : World) (n : Nat) : IntsAt (w.alloc (.cells (madeCells #[.int .i64 0] n) 3)) w.heap.size (List.replicate n 0) := by
  unfold IntsAt
  rw [← made_zeros]
  exact heap_alloc_new _ _
theorem info_int : (Try.prog.info? 3).map (fun i => (i.zero, i.size, i.bytes)) = some (some (.int .i64 0), 1, 8) := by kernel_rfl

set_option maxRecDepth 100000 in
set_option maxHeartbeats 1000000 in
theorem product_any (a b : List Nat) (pa pb ca cb : Nat) (w : World) (ha : IntsAt w pa a) (hb : IntsAt w pb b) (hal : ∀ x ∈ a, x < 65536) (hbl : ∀ x ∈ b, x < 65536) (hla : a.length ≤ 100) (hlb : b.length ≤ 100) (hca : a.length ≤ ca) (hcb : b.length ≤ cb) :
    Calls Try.prog 47 #[.slice (some ⟨pa, 0, none⟩) a.length ca, .slice (some ⟨pb, 0, none⟩) b.length cb] w fun e w' => ∃ o g, e = .returned (.slice (some ⟨g, 0, none⟩) (a.length + b.length) (a.length + b.length)) ∧ IntsAt w' g o ∧ Out a b o a.length ∧ w.heap.size ≤ g ∧ Below w.heap.size w w' := by
  obtain ⟨la, hA⟩ : ∃ n, n = a.length := ⟨_, rfl⟩
  obtain ⟨lb, hB⟩ : ∃ n, n = b.length := ⟨_, rfl⟩
  obtain ⟨n, hn⟩ : ∃ n, n = la + lb := ⟨_, rfl⟩
  rw [← hA, ← hB, ← hn]
  rw [← hA] at hla hca
  rw [← hB] at hlb hcb
  have WN : IntKind.i64.wrap ((la : Int) + (lb : Int)) = (n : Int) := by rw [IntWalk.i64_in _ (by omega)]; omega
  have hmk := @run_make_row' Try.prog 47 3 (.int .i64 0) 8 Try.underlying47 info_int rfl .i64 .i64 n (by omega) (by omega)
  have hnew := IntsAt.made w n
  have hbel : Below w.heap.size w (w.alloc (.cells (madeCells #[.int .i64 0] n) 3)) := (Below.refl _ _).alloc (Nat.le_refl _) _
  have hst := Out.start a b
  rw [← hA, ← hB, ← hn] at hst
  have G1 := Lib.hid hnew
  have G2 := Lib.hid hbel
  have G3 := Lib.hid hst
  have HA := Lib.hid hA
  have HB := Lib.hid hB
  have HN := Lib.hid hn
  have HPA := Lib.hid ha
  have HPB := Lib.hid hb
  have hpa := ha.lt
  have hpb := hb.lt
  have HAL := Lib.hid hal
  have HBL := Lib.hid hbl
  clear hnew hbel hst hA hB hn ha hb hal hbl
  go_enter Try.func47, Try.ntmps47
  go_wp2
  generalize w.alloc (.cells (madeCells #[.int .i64 0] n) 3) = W1 at *
  clear hmk
  obtain ⟨g, hg⟩ : ∃ g, g = w.heap.size := ⟨_, rfl⟩
  rw [← hg] at G1 hpa hpb ⊢
  have HG := Lib.hid hg; clear hg
  go_loopw [6] (fun i wr => ∃ (k : Nat) (o : List Nat), k ≤ la ∧ i = .int .i64 k ∧ Out a b o k ∧ IntsAt wr g o ∧ Below w.heap.size w wr) (fun i _ => la - (intOf i).toNat)
  case atStart => exact ⟨0, _, Nat.zero_le _, rfl, G3.out, G1.out, G2.out⟩
  case round =>
    obtain ⟨k, o, hk, rfl, hou, hrow, hbe⟩ := hrel
    by_cases hlt : k < la
    · have hka : k < a.length := by rw [← HA.out]; exact hlt
      obtain ⟨x, hx⟩ : ∃ x, a[k]? = some x := ⟨_, List.getElem?_eq_getElem hka⟩
      have hxl := HAL.out x (List.mem_of_getElem? hx)
      have HX := Lib.hid hx
      have HIN := Lib.hid (hou.inn x)
      have HROW := Lib.hid hrow
      have HBE := Lib.hid hbe
      clear hou hrow hbe hx
      have ki : (k : Int) < (la : Int) := by omega
      go_wp2
      go_loopw [7, 8] (fun c i wr => ∃ (j cc : Nat) (o : List Nat), j ≤ lb ∧ i = .int .i64 j ∧ c = .int .i64 cc ∧ Inn a b o k j cc x ∧ IntsAt wr g o ∧ Below w.heap.size w wr) (fun _ i _ => lb - (intOf i).toNat)
      case atStart => exact ⟨0, 0, _, Nat.zero_le _, rfl, rfl, HIN.out, HROW.out, HBE.out⟩
      case round =>
        obtain ⟨j, cc, o, hj, rfl, rfl, hin, hrow, hbe⟩ := hrel
        by_cases hjl : j < lb
        · have hjb : j < b.length := by rw [← HB.out]; exact hjl
          obtain ⟨y, hy⟩ : ∃ y, b[j]? = some y := ⟨_, List.getElem?_eq_getElem hjb⟩
          have hyl := HBL.out y (List.mem_of_getElem? hy)
          obtain ⟨z, hz⟩ : ∃ z, o[k + j]? = some z := ⟨_, List.getElem?_eq_getElem (by rw [hin.len]; omega)⟩
          have hzl := hin.lt z (List.mem_of_getElem? hz)
          have hcl := hin.cl
          have hb1 := (step_lt cc z x y hcl hzl hxl hyl)
          have HNX := Lib.hid (hin.next hka hjb hy hz hxl hyl)
          have hlen := hin.len
          have c1 := hrow.cell (k + j) z hz
          have c2 := (HPA.out.below hpa (HG.out ▸ hbe)).cell k x HX.out
          have c3 := (HPB.out.below hpb (HG.out ▸ hbe)).cell j y hy
          have cf := hrow.frozen (k + j)
          obtain ⟨q, hq⟩ : ∃ q, q = k + j := ⟨_, rfl⟩
          obtain ⟨m, hm⟩ : ∃ m, m = x * y := ⟨_, rfl⟩
          rw [← hm] at hb1 HNX
          obtain ⟨s, hs⟩ : ∃ s, s = cc + z := ⟨_, rfl⟩
          rw [← hs] at hb1 HNX
          obtain ⟨t, ht⟩ : ∃ t, t = s + m := ⟨_, rfl⟩
          rw [← ht] at hb1 HNX
          have W1' : IntKind.i64.wrap ((k : Int) + (j : Int)) = (q : Int) := by rw [IntWalk.i64_in _ (by omega)]; omega
          have W2' : IntKind.i64.wrap ((cc : Int) + (z : Int)) = (s : Int) := by rw [IntWalk.i64_in _ (by omega)]; omega
          have W3' : IntKind.i64.wrap ((x : Int) * (y : Int)) = (m : Int) := by
            have e : (x : Int) * (y : Int) = (m : Int) := by rw [hm, Int.natCast_mul]
            rw [e, IntWalk.i64_in _ (by omega)]
          have W4' : IntKind.i64.wrap ((s : Int) + (m : Int)) = (t : Int) := by rw [IntWalk.i64_in _ (by omega)]; omega
          rw [← hq] at c1 cf HNX
          have T1 : Int.tmod (t : Int) 65536 = ((t % 65536 : Nat) : Int) := rfl
          have T2 : Int.tdiv (t : Int) 65536 = ((t / 65536 : Nat) : Int) := rfl
          have hr2 : t % 65536 < 65536 := Nat.mod_lt _ (by decide)
          have hd2 := hb1.2
          obtain ⟨r, hr⟩ : ∃ r, r = t % 65536 := ⟨_, rfl⟩
          obtain ⟨d, hd⟩ : ∃ d, d = t / 65536 := ⟨_, rfl⟩
          rw [← hr] at T1 hr2 HNX
          rw [← hd] at T2 hd2 HNX
          have W5 : IntKind.i64.wrap (r : Int) = (r : Int) := by rw [IntWalk.i64_in _ (by omega)]
          have W6 : IntKind.i64.wrap (d : Int) = (d : Int) := by rw [IntWalk.i64_in _ (by omega)]
          have hqn : q < n := by rw [HN.out, hq]; omega
          have k0 : (0 : Int) ≤ (k : Int) := by omega
          have j0 : (0 : Int) ≤ (j : Int) := by omega
          have q0 : (0 : Int) ≤ (q : Int) := by omega
          have qi : (q : Int) < (n : Int) := by omega
          have ji : (j : Int) < (lb : Int) := by omega
          have HROW2 := Lib.hid hrow
          have HBE2 := Lib.hid hbe
          clear hm hs ht hr hd hq hrow hbe hin hb1 hlen hz hy hd2 hr2
          go_wp2
          go_quiet (fail)
          go_wp2
          go_roundw
          case rel => exact ⟨j + 1, d, _, by omega, rfl, rfl, HNX.out, IntsAt.set (w := wr.drewN nq) HROW2.out q r, (Below_drewN HBE2.out nq).setCell (p := ⟨g, q, none⟩) (Nat.le_of_eq HG.out.symm) _⟩
          case measure => simp [intOf]; omega
        · have e : j = b.length := by rw [← HB.out]; omega
          rw [e] at hin
          have HD := Lib.hid (hin.done hka HX.out)
          have c0 := hin.cl
          have hold := hin.zer (k + b.length) (Nat.le_refl _) (by omega)
          have c1 := hrow.cell (k + b.length) 0 hold
          have cf := hrow.frozen (k + b.length)
          obtain ⟨q, hq⟩ : ∃ q, q = k + b.length := ⟨_, rfl⟩
          rw [← hq] at c1 cf HD
          have hq' : q = k + lb := by rw [hq, HB.out]
          have W1' : IntKind.i64.wrap ((k : Int) + (lb : Int)) = (q : Int) := by rw [IntWalk.i64_in _ (by omega)]; omega
          have hqn : q < n := by rw [HN.out, hq']; omega
          have q0 : (0 : Int) ≤ (q : Int) := by omega
          have qi : (q : Int) < (n : Int) := by omega
          have nj : ¬ ((j : Int) < (lb : Int)) := by omega
          have HROW2 := Lib.hid hrow
          have HBE2 := Lib.hid hbe
          clear hq hq' hrow hbe hin hold e
          go_wp2
          go_roundw
          case rel => exact ⟨k + 1, _, by omega, rfl, HD.out, IntsAt.set HROW2.out q cc, HBE2.out.setCell (p := ⟨g, q, none⟩) (Nat.le_of_eq HG.out.symm) _⟩
          case measure => simp [intOf]; omega
    · have e : k = la := by omega
      rw [e] at hou
      have HOU := Lib.hid hou
      have HROW := Lib.hid hrow
      have HBE := Lib.hid hbe
      clear hou hrow hbe e
      have nk : ¬ ((k : Int) < (la : Int)) := by omega
      go_wp2
      go_ret
      exact ⟨o, g, rfl, HROW.out, HOU.out, Nat.le_of_eq HG.out.symm, HBE.out⟩
end Go.Proofs.Ytbiahhngeldhbaa
