/- Several texts in one: LimbMath, ProductW, MostW, RefRootW, RefPrimeW, RootsW, QuietTail, Cells, RefBlockW, RowB, RefShaW, RealsW. -/
import Derived.Test.YtcbodpcekjngbaaGreatBookW
import Derived.Test.YtcbodpcekjngbaaGreatFrame
import Derived.Test.YtcbodpcekjngbaaGreatGen
import Derived.Test.YtcbodpcekjngbaaGreatShaX
import Derived.Test.YtcbodpcekjngbaaGreatOwnL
import Derived.Test.YtcbodpcekjngbaaGreatRows
import Derived.Test.YtcbodpcekjngbaaGreatShelf
import Derived.BigQuiet
import Derived.Deep.QuietTactic
import Derived.IntWalk
import Derived.Laws.BitsAllLaws
import Derived.Laws.Rows
import Derived.Laws.Tables
import Derived.Lib.Hide
import Derived.Outline
import Derived.StillTailTactics
import Derived.WalkKit
import Derived.WalkLawsBesides
import Derived.WalkSpells
import Derived.Deep.OwnRows
import Derived.OpenShut
import Derived.ProofKit
import Derived.ShutString
import Derived.SizedLaws
import Derived.SliceStrings
import Derived.BigRegion
import Derived.Deep.RegionLaw
import Derived.Maps.OwnSet
import Derived.Maps.Views
import Derived.Test.YtcbodpcekjngbaaGreatInfos
import Derived.StillTail
import Derived.Laws.OwnMore
import Derived.Test.YtcbodpcekjngbaaGreatBitLaw
import Derived.Test.YtcbodpcekjngbaaGreatQuietLaw
import Derived.ArgAppend
import Derived.Laws.IdiomCopy
import Derived.Deep.CutBlock
import Derived.Deep.DeepCutAuto
import Derived.Laws.CopyRow
import Derived.Lib.SliceRun
import Derived.Test.YtcbodpcekjngbaaGreatMarkMath
import Derived.Test.YtcbodpcekjngbaaGreatBkX
import Derived.Deep.RegionHeld3
import Derived.Deep.Slices
import Derived.Lib.SmallJoins
/- Numbers of digits to the base 65536, the lowest first; the document's roots. -/
set_option linter.unusedVariables false
namespace Go.Proofs.YtcbodpcekjngbaaGreat

def rootR (n p : Nat) : Nat → Nat → Nat
  | 0, x => x
  | e + 1, x => rootR n p e (if (x + 2 ^ e) ^ p ≤ n * 2 ^ (32 * p) then x + 2 ^ e else x)
def rroot (n p : Nat) : Nat := rootR n p 36 0 % 4294967296
theorem roots3 : PL.all (fun n => rroot n 3 == bp n 3) = true := by decide +kernel
theorem roots2 : (PL.take 8).all (fun n => rroot n 2 == bp n 2) = true := by decide +kernel
theorem KL_roots : PL.map (fun n => rroot n 3) = KL := by
  unfold KL
  exact List.map_congr_left fun n hn => beq_iff_eq.1 (List.all_eq_true.1 roots3 n hn)
theorem HL_roots : (PL.take 8).map (fun n => rroot n 2) = HL := by
  unfold HL
  exact List.map_congr_left fun n hn => beq_iff_eq.1 (List.all_eq_true.1 roots2 n hn)

def val : List Nat → Nat
  | [] => 0
  | x :: l => x + 65536 * val l
theorem val_set (l : List Nat) (k x z : Nat) (h : l[k]? = some z) : val (l.set k x) + 65536 ^ k * z = val l + 65536 ^ k * x := by
  induction l generalizing k with
  | nil => simp at h
  | cons a l ih =>
    cases k with
    | zero =>
      simp at h
      subst h
      simp [val]
      omega
    | succ k =>
      have := ih k (by simpa using h)
      simp only [List.set_cons_succ, val, Nat.pow_succ, Nat.mul_assoc, Nat.mul_left_comm _ 65536]
      omega
theorem val_take (l : List Nat) (k z : Nat) (h : l[k]? = some z) : val (l.take (k + 1)) = val (l.take k) + z * 65536 ^ k := by
  induction l generalizing k with
  | nil => simp at h
  | cons a l ih =>
    cases k with
    | zero =>
      simp at h
      subst h
      simp [val]
    | succ k =>
      have := ih k (by simpa using h)
      simp only [List.take_succ_cons, val, this, Nat.pow_succ, Nat.mul_add, Nat.add_assoc]
      rw [Nat.mul_comm (65536 ^ k) 65536, Nat.mul_left_comm]

structure Out (a b o : List Nat) (i : Nat) : Prop where
  len : o.length = a.length + b.length
  lt : ∀ x ∈ o, x < 65536
  zer : ∀ k, i + b.length ≤ k → k < a.length + b.length → o[k]? = some 0
  v : val o = val (a.take i) * val b
structure Inn (a b o : List Nat) (i j c x : Nat) : Prop where
  len : o.length = a.length + b.length
  lt : ∀ x ∈ o, x < 65536
  zer : ∀ k, i + b.length ≤ k → k < a.length + b.length → o[k]? = some 0
  cl : c < 65536
  v : val o + c * 65536 ^ (i + j) = val (a.take i) * val b + x * val (b.take j) * 65536 ^ i
theorem Out.inn {a b o : List Nat} {i : Nat} (h : Out a b o i) (x : Nat) : Inn a b o i 0 0 x := ⟨h.len, h.lt, h.zer, by decide, by rw [h.v]; simp [val]⟩
theorem step_lt (c z x y : Nat) (hc : c < 65536) (hz : z < 65536) (hx : x < 65536) (hy : y < 65536) : c + z + x * y < 4294967296 ∧ (c + z + x * y) / 65536 < 65536 := by
  have : x * y ≤ 65535 * 65535 := Nat.mul_le_mul (by omega) (by omega)
  omega
theorem step_v (V Z c z x y B P Q R W : Nat) (hv : Z + B * z = V + B * ((c + z + x * y) % 65536)) (h : V + c * B = P + x * R * Q) (hB : B = Q * W) : 
    Z + (c + z + x * y) / 65536 * (B * 65536) = P + x * (R + y * W) * Q := by
  have e := Nat.div_add_mod (c + z + x * y) 65536
  generalize (c + z + x * y) % 65536 = m at *
  generalize (c + z + x * y) / 65536 = d at *
  subst hB
  grind
theorem mem_set {l : List Nat} {k x N : Nat} (h : ∀ y ∈ l, y < N) (hx : x < N) : ∀ y ∈ l.set k x, y < N := by
  intro y hy
  rcases List.mem_or_eq_of_mem_set hy with h' | rfl
  · exact h y h'
  · exact hx
theorem Inn.next {a b o : List Nat} {i j c x y z : Nat} (h : Inn a b o i j c x) (hi : i < a.length) (hj : j < b.length) (hy : b[j]? = some y) (hz : o[i + j]? = some z) (hx : x < 65536) (hyl : y < 65536) :
    Inn a b (o.set (i + j) ((c + z + x * y) % 65536)) i (j + 1) ((c + z + x * y) / 65536) x := by
  have hzl : z < 65536 := h.lt z (List.mem_of_getElem? hz)
  refine ⟨by rw [List.length_set, h.len], mem_set h.lt (Nat.mod_lt _ (by decide)), ?_, (step_lt c z x y h.cl hzl hx hyl).2, ?_⟩
  · intro k h1 h2
    rw [List.getElem?_set_ne (by omega)]
    exact h.zer k h1 h2
  · rw [show i + (j + 1) = (i + j) + 1 by omega, Nat.pow_succ, val_take b j y hy]
    exact step_v (val o) _ c z x y (65536 ^ (i + j)) _ (65536 ^ i) (val (b.take j)) (65536 ^ j) (val_set o (i + j) _ z hz) h.v (Nat.pow_add ..)
theorem Inn.done {a b o : List Nat} {i c x : Nat} (h : Inn a b o i b.length c x) (hi : i < a.length) (hx : a[i]? = some x) : Out a b (o.set (i + b.length) c) (i + 1) := by
  refine ⟨by rw [List.length_set, h.len], mem_set h.lt h.cl, ?_, ?_⟩
  · intro k h1 h2
    rw [List.getElem?_set_ne (by omega)]
    exact h.zer k (by omega) h2
  · have e := val_set o (i + b.length) c 0 (h.zer _ (Nat.le_refl _) (by omega))
    have v := h.v
    rw [List.take_of_length_le (Nat.le_refl _)] at v
    rw [val_take a i x hx]
    generalize 65536 ^ (i + b.length) = B at *
    generalize 65536 ^ i = Q at *
    grind
theorem val_zero (n : Nat) : val (List.replicate n 0) = 0 := by
  induction n with
  | zero => rfl
  | succ n ih => simp [List.replicate_succ, val, ih]
theorem Out.start (a b : List Nat) : Out a b (List.replicate (a.length + b.length) 0) 0 := by
  refine ⟨by simp, by simp, ?_, by rw [val_zero]; simp [val]⟩
  intro k _ h
  simp [h]
theorem Out.all {a b o : List Nat} (h : Out a b o a.length) : val o = val a * val b := by
  have := h.v
  rw [List.take_of_length_le (Nat.le_refl _)] at this
  exact this

theorem val_split (l : List Nat) (k : Nat) (h : k ≤ l.length) : val l = val (l.take k) + 65536 ^ k * val (l.drop k) := by
  induction l generalizing k with
  | nil => simp at h; subst h; simp [val]
  | cons a l ih =>
    cases k with
    | zero => simp [val]
    | succ k =>
      have := ih k (by simpa using h)
      simp only [List.take_succ_cons, List.drop_succ_cons, val, Nat.pow_succ]
      grind
theorem val_lt (l : List Nat) (h : ∀ x ∈ l, x < 65536) : val l < 65536 ^ l.length := by
  induction l with
  | nil => simp [val]
  | cons a l ih =>
    have := ih fun x hx => h x (by simp [hx])
    have ha := h a (by simp)
    simp only [val, List.length_cons, Nat.pow_succ]
    omega
theorem val_drop (l : List Nat) (k x : Nat) (h : l[k]? = some x) : val (l.drop k) = val (l.drop (k + 1)) * 65536 + x := by
  have hk : k < l.length := (List.getElem?_eq_some_iff.1 h).1
  rw [List.drop_eq_getElem_cons hk, (List.getElem?_eq_some_iff.1 h).2]
  simp only [val]
  omega
/-- What 'most' tells. -/
theorem most_of (l : List Nat) (k n : Nat) (h : ∀ x ∈ l, x < 65536) (hk : k ≤ l.length) : (val (l.drop k) < n ∨ (val (l.drop k) = n ∧ val (l.take k) = 0)) ↔ val l ≤ n * 65536 ^ k := by
  have e := val_split l k hk
  have hl := val_lt (l.take k) fun x hx => h x (List.mem_of_mem_take hx)
  rw [List.length_take, Nat.min_eq_left hk] at hl
  generalize val (l.take k) = L at *
  generalize val (l.drop k) = H at *
  generalize val l = V at *
  generalize 65536 ^ k = B at *
  constructor
  · rintro (h1 | ⟨rfl, rfl⟩)
    · have : (H + 1) * B ≤ n * B := Nat.mul_le_mul_right _ h1
      grind
    · grind
  · intro h1
    rcases Nat.lt_trichotomy H n with h2 | h2 | h2
    · exact .inl h2
    · subst h2
      refine .inr ⟨rfl, ?_⟩
      grind
    · have : (n + 1) * B ≤ H * B := Nat.mul_le_mul_right _ h2
      grind
/-- The three digits of a number of 36 bits. -/
def dig (x : Nat) : List Nat := [x % 65536, x / 65536 % 65536, x / 4294967296]
theorem val_dig (x : Nat) : val (dig x) = x := by
  unfold dig
  simp only [val]
  omega
theorem dig_lt (x : Nat) (h : x < 68719476736) : ∀ y ∈ dig x, y < 65536 := by
  unfold dig
  intro y hy
  simp only [List.mem_cons, List.not_mem_nil, or_false] at hy
  rcases hy with rfl | rfl | rfl <;> omega
end Go.Proofs.YtcbodpcekjngbaaGreat
/- The walk of the document's product. -/
set_option linter.unusedVariables false
namespace Go.Proofs.YtcbodpcekjngbaaGreat
open Go.RowKit

/-- Whole numbers as a block's cells. -/
def arrI (l : List Nat) : Array Value := (l.map fun x : Nat => Value.int .i64 (x : Int)).toArray
theorem arrI_size (l : List Nat) : (arrI l).size = l.length := by simp [arrI]
theorem arrI_get (l : List Nat) (k x : Nat) (h : l[k]? = some x) : (arrI l)[k]? = some (.int .i64 (x : Int)) := by
  unfold arrI
  simp [h]
theorem arrI_set (l : List Nat) (k x : Nat) : (arrI l).setIfInBounds k (.int .i64 (x : Int)) = arrI (l.set k x) := by
  unfold arrI
  rw [List.setIfInBounds_toArray, List.map_set]
/-- A row of whole numbers in block g. -/
def IntsAt (w : World) (g : Nat) (l : List Nat) : Prop := w.heap[g]? = some (.cells (arrI l) 3 (0, 0))
theorem IntsAt.cell {w : World} {g : Nat} {l : List Nat} (h : IntsAt w g l) (k x : Nat) (hx : l[k]? = some x) : w.cell? ⟨g, k, none⟩ = some (.int .i64 (x : Int)) := by
  rw [cell_of_row _ _ _ _ _ _ h]
  exact arrI_get _ _ _ hx
theorem IntsAt.frozen {w : World} {g : Nat} {l : List Nat} (h : IntsAt w g l) (k : Nat) : w.frozen? ⟨g, k, none⟩ = false := frozen_of_row w g k _ _ h
theorem IntsAt.set {w : World} {g : Nat} {l : List Nat} (h : IntsAt w g l) (k x : Nat) : IntsAt (w.setCell ⟨g, k, none⟩ (.int .i64 (x : Int))) g (l.set k x) := by
  unfold IntsAt
  rw [← arrI_set]
  exact heap_setCell_same w g k _ _ _ h
theorem IntsAt.lt {w : World} {g : Nat} {l : List Nat} (h : IntsAt w g l) : g < w.heap.size := (Array.getElem?_eq_some_iff.1 h).1
theorem IntsAt.new {w w' : World} {g : Nat} {l : List Nat} (h : IntsAt w g l) (hb : Below w.heap.size w w') : IntsAt w' g l := (hb.block g h.lt).trans h
theorem IntsAt.below {w w' : World} {g B : Nat} {l : List Nat} (h : IntsAt w g l) (hg : g < B) (hb : Below B w w') : IntsAt w' g l := (hb.block g hg).trans h
theorem made_zeros (n : Nat) : madeCells #[.int .i64 0] n = arrI (List.replicate n 0) := by
  obtain ⟨c, hc, hs, hg⟩ := World.rowIs_made (default : World) (.int .i64 0) n 3
  rw [heap_alloc_new] at hc
  obtain rfl : madeCells #[.int .i64 0] n = c := by
    have := Option.some.inj hc
    injection this
  apply Array.ext_getElem?
  intro i
  by_cases h : i < n
  · rw [hg i h, arrI_get _ i 0 (by simp [h])]
    rfl
  · rw [Array.getElem?_eq_none (by rw [hs]; omega), Array.getElem?_eq_none (by rw [arrI_size, List.length_replicate]; omega)]
theorem IntsAt.made (w : World) (n : Nat) : IntsAt (w.alloc (.cells (madeCells #[.int .i64 0] n) 3)) w.heap.size (List.replicate n 0) := by
  unfold IntsAt
  rw [← made_zeros]
  exact heap_alloc_new _ _
theorem info_int : (Tryz.prog.info? 3).map (fun i => (i.zero, i.size, i.bytes)) = some (some (.int .i64 0), 1, 8) := by kernel_rfl

set_option maxRecDepth 100000 in
set_option maxHeartbeats 1000000 in
theorem product_any (a b : List Nat) (pa pb ca cb : Nat) (w : World) (ha : IntsAt w pa a) (hb : IntsAt w pb b) (hal : ∀ x ∈ a, x < 65536) (hbl : ∀ x ∈ b, x < 65536) (hla : a.length ≤ 100) (hlb : b.length ≤ 100) (hca : a.length ≤ ca) (hcb : b.length ≤ cb) :
    Calls Tryz.prog 119 #[.slice (some ⟨pa, 0, none⟩) a.length ca, .slice (some ⟨pb, 0, none⟩) b.length cb] w fun e w' => ∃ o g, e = .returned (.slice (some ⟨g, 0, none⟩) (a.length + b.length) (a.length + b.length)) ∧ IntsAt w' g o ∧ Out a b o a.length ∧ w.heap.size ≤ g ∧ Below w.heap.size w w' := by
  obtain ⟨la, hA⟩ : ∃ n, n = a.length := ⟨_, rfl⟩
  obtain ⟨lb, hB⟩ : ∃ n, n = b.length := ⟨_, rfl⟩
  obtain ⟨n, hn⟩ : ∃ n, n = la + lb := ⟨_, rfl⟩
  rw [← hA, ← hB, ← hn]
  rw [← hA] at hla hca
  rw [← hB] at hlb hcb
  have WN : IntKind.i64.wrap ((la : Int) + (lb : Int)) = (n : Int) := by rw [IntWalk.i64_in _ (by omega)]; omega
  have hmk := @run_make_row' Tryz.prog 22 3 (.int .i64 0) 8 Tryz.underlying22 info_int rfl .i64 .i64 n (by omega) (by omega)
  have hnew := IntsAt.made w n
  have hbel : Below w.heap.size w (w.alloc (.cells (madeCells #[.int .i64 0] n) 3)) := (Below.refl _ _).alloc (Nat.le_refl _) _
  have hst := Out.start a b
  rw [← hA, ← hB, ← hn] at hst
  have G1 := Lib.hid hnew
  have G2 := Lib.hid hbel
  have G3 := Lib.hid hst
  have HA := Lib.hid hA
  have HB := Lib.hid hB
  have HN := Lib.hid hn
  have HPA := Lib.hid ha
  have HPB := Lib.hid hb
  have hpa := ha.lt
  have hpb := hb.lt
  have HAL := Lib.hid hal
  have HBL := Lib.hid hbl
  clear hnew hbel hst hA hB hn ha hb hal hbl
  go_enter Tryz.func119, Tryz.ntmps119
  go_wp2
  generalize w.alloc (.cells (madeCells #[.int .i64 0] n) 3) = W1 at *
  clear hmk
  obtain ⟨g, hg⟩ : ∃ g, g = w.heap.size := ⟨_, rfl⟩
  rw [← hg] at G1 hpa hpb ⊢
  have HG := Lib.hid hg; clear hg
  go_loopw [6] (fun i wr => ∃ (k : Nat) (o : List Nat), k ≤ la ∧ i = .int .i64 k ∧ Out a b o k ∧ IntsAt wr g o ∧ Below w.heap.size w wr) (fun i _ => la - (intOf i).toNat)
  case atStart => exact ⟨0, _, Nat.zero_le _, rfl, G3.out, G1.out, G2.out⟩
  case round =>
    obtain ⟨k, o, hk, rfl, hou, hrow, hbe⟩ := hrel
    by_cases hlt : k < la
    · have hka : k < a.length := by rw [← HA.out]; exact hlt
      obtain ⟨x, hx⟩ : ∃ x, a[k]? = some x := ⟨_, List.getElem?_eq_getElem hka⟩
      have hxl := HAL.out x (List.mem_of_getElem? hx)
      have HX := Lib.hid hx
      have HIN := Lib.hid (hou.inn x)
      have HROW := Lib.hid hrow
      have HBE := Lib.hid hbe
      clear hou hrow hbe hx
      have ki : (k : Int) < (la : Int) := by omega
      go_wp2
      go_loopw [7, 8] (fun c i wr => ∃ (j cc : Nat) (o : List Nat), j ≤ lb ∧ i = .int .i64 j ∧ c = .int .i64 cc ∧ Inn a b o k j cc x ∧ IntsAt wr g o ∧ Below w.heap.size w wr) (fun _ i _ => lb - (intOf i).toNat)
      case atStart => exact ⟨0, 0, _, Nat.zero_le _, rfl, rfl, HIN.out, HROW.out, HBE.out⟩
      case round =>
        obtain ⟨j, cc, o, hj, rfl, rfl, hin, hrow, hbe⟩ := hrel
        by_cases hjl : j < lb
        · have hjb : j < b.length := by rw [← HB.out]; exact hjl
          obtain ⟨y, hy⟩ : ∃ y, b[j]? = some y := ⟨_, List.getElem?_eq_getElem hjb⟩
          have hyl := HBL.out y (List.mem_of_getElem? hy)
          obtain ⟨z, hz⟩ : ∃ z, o[k + j]? = some z := ⟨_, List.getElem?_eq_getElem (by rw [hin.len]; omega)⟩
          have hzl := hin.lt z (List.mem_of_getElem? hz)
          have hcl := hin.cl
          have hb1 := (step_lt cc z x y hcl hzl hxl hyl)
          have HNX := Lib.hid (hin.next hka hjb hy hz hxl hyl)
          have hlen := hin.len
          have c1 := hrow.cell (k + j) z hz
          have c2 := (HPA.out.below hpa (HG.out ▸ hbe)).cell k x HX.out
          have c3 := (HPB.out.below hpb (HG.out ▸ hbe)).cell j y hy
          have cf := hrow.frozen (k + j)
          obtain ⟨q, hq⟩ : ∃ q, q = k + j := ⟨_, rfl⟩
          obtain ⟨m, hm⟩ : ∃ m, m = x * y := ⟨_, rfl⟩
          rw [← hm] at hb1 HNX
          obtain ⟨s, hs⟩ : ∃ s, s = cc + z := ⟨_, rfl⟩
          rw [← hs] at hb1 HNX
          obtain ⟨t, ht⟩ : ∃ t, t = s + m := ⟨_, rfl⟩
          rw [← ht] at hb1 HNX
          have W1' : IntKind.i64.wrap ((k : Int) + (j : Int)) = (q : Int) := by rw [IntWalk.i64_in _ (by omega)]; omega
          have W2' : IntKind.i64.wrap ((cc : Int) + (z : Int)) = (s : Int) := by rw [IntWalk.i64_in _ (by omega)]; omega
          have W3' : IntKind.i64.wrap ((x : Int) * (y : Int)) = (m : Int) := by
            have e : (x : Int) * (y : Int) = (m : Int) := by rw [hm, Int.natCast_mul]
            rw [e, IntWalk.i64_in _ (by omega)]
          have W4' : IntKind.i64.wrap ((s : Int) + (m : Int)) = (t : Int) := by rw [IntWalk.i64_in _ (by omega)]; omega
          rw [← hq] at c1 cf HNX
          have T1 : Int.tmod (t : Int) 65536 = ((t % 65536 : Nat) : Int) := rfl
          have T2 : Int.tdiv (t : Int) 65536 = ((t / 65536 : Nat) : Int) := rfl
          have hr2 : t % 65536 < 65536 := Nat.mod_lt _ (by decide)
          have hd2 := hb1.2
          obtain ⟨r, hr⟩ : ∃ r, r = t % 65536 := ⟨_, rfl⟩
          obtain ⟨d, hd⟩ : ∃ d, d = t / 65536 := ⟨_, rfl⟩
          rw [← hr] at T1 hr2 HNX
          rw [← hd] at T2 hd2 HNX
          have W5 : IntKind.i64.wrap (r : Int) = (r : Int) := by rw [IntWalk.i64_in _ (by omega)]
          have W6 : IntKind.i64.wrap (d : Int) = (d : Int) := by rw [IntWalk.i64_in _ (by omega)]
          have hqn : q < n := by rw [HN.out, hq]; omega
          have k0 : (0 : Int) ≤ (k : Int) := by omega
          have j0 : (0 : Int) ≤ (j : Int) := by omega
          have q0 : (0 : Int) ≤ (q : Int) := by omega
          have qi : (q : Int) < (n : Int) := by omega
          have ji : (j : Int) < (lb : Int) := by omega
          have HROW2 := Lib.hid hrow
          have HBE2 := Lib.hid hbe
          clear hm hs ht hr hd hq hrow hbe hin hb1 hlen hz hy hd2 hr2
          go_wp2
          go_quiet (fail)
          go_wp2
          go_roundw
          case rel => exact ⟨j + 1, d, _, by omega, rfl, rfl, HNX.out, IntsAt.set (w := wr.drewN nq) HROW2.out q r, (Below_drewN HBE2.out nq).setCell (p := ⟨g, q, none⟩) (Nat.le_of_eq HG.out.symm) _⟩
          case measure => simp [intOf]; omega
        · have e : j = b.length := by rw [← HB.out]; omega
          rw [e] at hin
          have HD := Lib.hid (hin.done hka HX.out)
          have c0 := hin.cl
          have hold := hin.zer (k + b.length) (Nat.le_refl _) (by omega)
          have c1 := hrow.cell (k + b.length) 0 hold
          have cf := hrow.frozen (k + b.length)
          obtain ⟨q, hq⟩ : ∃ q, q = k + b.length := ⟨_, rfl⟩
          rw [← hq] at c1 cf HD
          have hq' : q = k + lb := by rw [hq, HB.out]
          have W1' : IntKind.i64.wrap ((k : Int) + (lb : Int)) = (q : Int) := by rw [IntWalk.i64_in _ (by omega)]; omega
          have hqn : q < n := by rw [HN.out, hq']; omega
          have q0 : (0 : Int) ≤ (q : Int) := by omega
          have qi : (q : Int) < (n : Int) := by omega
          have nj : ¬ ((j : Int) < (lb : Int)) := by omega
          have HROW2 := Lib.hid hrow
          have HBE2 := Lib.hid hbe
          clear hq hq' hrow hbe hin hold e
          go_wp2
          go_roundw
          case rel => exact ⟨k + 1, _, by omega, rfl, HD.out, IntsAt.set HROW2.out q cc, HBE2.out.setCell (p := ⟨g, q, none⟩) (Nat.le_of_eq HG.out.symm) _⟩
          case measure => simp [intOf]; omega
    · have e : k = la := by omega
      rw [e] at hou
      have HOU := Lib.hid hou
      have HROW := Lib.hid hrow
      have HBE := Lib.hid hbe
      clear hou hrow hbe e
      have nk : ¬ ((k : Int) < (la : Int)) := by omega
      go_wp2
      go_ret
      exact ⟨o, g, rfl, HROW.out, HOU.out, Nat.le_of_eq HG.out.symm, HBE.out⟩
end Go.Proofs.YtcbodpcekjngbaaGreat
/- The walk of the document's most. Written by wip/gen/most.py. -/
set_option linter.unusedVariables false
namespace Go.Proofs.YtcbodpcekjngbaaGreat
open Go.RowKit

theorem drop_le_one (l : List Nat) (j : Nat) : val (l.drop (j + 1)) ≤ val (l.drop j) := by
  by_cases h : j < l.length
  · rw [val_drop l j _ (List.getElem?_eq_getElem h)]
    omega
  · rw [List.drop_eq_nil_of_le (by omega), List.drop_eq_nil_of_le (by omega)]
    exact Nat.le_refl _
theorem drop_le (l : List Nat) (k d : Nat) : val (l.drop (k + d)) ≤ val (l.drop k) := by
  induction d with
  | zero => exact Nat.le_refl _
  | succ d ih => exact Nat.le_trans (drop_le_one l (k + d)) ih
/-- The digits from K on that stand from k on; the digits below K that do. -/
def hiV (o : List Nat) (K k : Nat) : Nat := val (o.drop (max k K))
def loV (o : List Nat) (K k : Nat) : Nat := val ((o.take K).drop k)
theorem hi_step (o : List Nat) (K i z : Nat) (h : K ≤ i) (hz : o[i]? = some z) : hiV o K i = hiV o K (i + 1) * 65536 + z ∧ loV o K i = 0 ∧ loV o K (i + 1) = 0 := by
  unfold hiV loV
  refine ⟨?_, ?_, ?_⟩
  · rw [Nat.max_eq_left h, Nat.max_eq_left (by omega)]
    exact val_drop o i z hz
  · rw [List.drop_eq_nil_of_le (by rw [List.length_take]; omega)]
    rfl
  · rw [List.drop_eq_nil_of_le (by rw [List.length_take]; omega)]
    rfl
theorem lo_step (o : List Nat) (K i z : Nat) (h : i < K) (hz : o[i]? = some z) : loV o K i = loV o K (i + 1) * 65536 + z ∧ hiV o K i = hiV o K (i + 1) := by
  unfold hiV loV
  refine ⟨?_, ?_⟩
  · exact val_drop _ i z (by rw [List.getElem?_take_of_lt h]; exact hz)
  · rw [Nat.max_eq_right (by omega), Nat.max_eq_right (by omega)]
theorem hi_le (o : List Nat) (K k : Nat) : hiV o K k ≤ hiV o K 0 := by
  unfold hiV
  rw [Nat.max_eq_right (Nat.zero_le K)]
  rcases Nat.le_total k K with h | h
  · rw [Nat.max_eq_right h]
    exact Nat.le_refl _
  · rw [Nat.max_eq_left h]
    have := drop_le o K (k - K)
    rwa [show K + (k - K) = k by omega] at this
theorem hi_end (o : List Nat) (K : Nat) : hiV o K 0 = val (o.drop K) ∧ loV o K 0 = val (o.take K) := by
  unfold hiV loV
  rw [Nat.max_eq_right (Nat.zero_le K)]
  exact ⟨rfl, by rw [List.drop_zero]⟩
theorem hi_start (o : List Nat) (K L : Nat) (hL : L = o.length) (h : K ≤ L) : hiV o K L = 0 ∧ loV o K L = 0 := by
  unfold hiV loV
  subst hL
  rw [Nat.max_eq_left h, List.drop_eq_nil_of_le (Nat.le_refl _), List.drop_eq_nil_of_le (by rw [List.length_take]; omega)]
  exact ⟨rfl, rfl⟩
theorem hi_small (o : List Nat) (K V M : Nat) (hv : val o = V) (hk : K ≤ o.length) (hV : V < M * 65536 ^ K) : hiV o K 0 < M := by
  rw [(hi_end o K).1]
  have e := val_split o K hk
  rw [hv] at e
  rcases Nat.lt_or_ge (val (o.drop K)) M with h | h
  · exact h
  · have : M * 65536 ^ K ≤ val (o.drop K) * 65536 ^ K := Nat.mul_le_mul_right _ h
    rw [Nat.mul_comm (val (o.drop K))] at this
    omega
theorem bool_ne (a b : Nat) : decide (a * 65536 + b ≠ 0) = (decide (a ≠ 0) || decide (b ≠ 0)) := by
  rw [Bool.eq_iff_iff]
  simp
  omega
theorem dig_len (x : Nat) : (dig x).length = 3 := rfl
theorem pow2 (x n : Nat) : (x ^ 2 ≤ n * 2 ^ (32 * 2)) ↔ (x * x ≤ n * 65536 ^ 4) := by rw [Nat.pow_two]
theorem pow3 (x n : Nat) : (x ^ 3 ≤ n * 2 ^ (32 * 3)) ↔ (x * x * x ≤ n * 65536 ^ 6) := by rw [Nat.pow_succ, Nat.pow_two]
theorem ret_b {a b : Bool} (h : a = b) : Ending.returned (.bool a) = .returned (.bool b) := by rw [h]
theorem product_at (a b : List Nat) (pa pb la lb L : Nat) (w : World) (ha : IntsAt w pa a) (hb : IntsAt w pb b) (hal : ∀ x ∈ a, x < 65536) (hbl : ∀ x ∈ b, x < 65536) (hla : a.length = la) (hlb : b.length = lb) (hL : la + lb = L) (hL1 : L ≤ 100) :
    Calls Tryz.prog 119 #[.slice (some ⟨pa, 0, none⟩) la la, .slice (some ⟨pb, 0, none⟩) lb lb] w fun e w' => ∃ o g, e = .returned (.slice (some ⟨g, 0, none⟩) L L) ∧ IntsAt w' g o ∧ (val o = val a * val b ∧ o.length = L ∧ ∀ x ∈ o, x < 65536) ∧ Below w.heap.size w w' := by
  subst hL hla hlb
  refine (product_any a b pa pb _ _ w ha hb hal hbl (by omega) (by omega) (Nat.le_refl _) (Nat.le_refl _)).mono ?_
  rintro e w1 ⟨o, g, rfl, hr, hou, _, hb⟩
  exact ⟨o, g, rfl, hr, ⟨hou.all, hou.len, hou.lt⟩, hb⟩
theorem sq_lt (x : Nat) (h : x < 68719476736) : x * x < 256 * 65536 ^ 4 := by
  have := Nat.mul_lt_mul'' h h
  omega
theorem cube_lt (x : Nat) (h : x < 68719476736) : x * x * x < 4096 * 65536 ^ 6 := by
  have := Nat.mul_lt_mul'' (Nat.mul_lt_mul'' h h) h
  omega

set_option maxRecDepth 100000 in
set_option maxHeartbeats 1000000 in
theorem most2_any (x n : Nat) (w : World) (hx : x < 68719476736) (hn : n < 512) :
    Calls Tryz.prog 108 #[.int .i64 x, .int .i64 2, .int .i64 n] w fun e w' => e = .returned (.bool (decide (x ^ 2 ≤ n * 2 ^ (32 * 2)))) ∧ Below w.heap.size w w' := by
  have HDL := Lib.hid (dig_lt x hx)
  have HVD := Lib.hid (val_dig x)
  have HXL := Lib.hid hx
  obtain ⟨d0, h0⟩ : ∃ d, d = x % 65536 := ⟨_, rfl⟩
  obtain ⟨q, hq⟩ : ∃ d, d = x / 65536 := ⟨_, rfl⟩
  obtain ⟨d1, h1⟩ : ∃ d, d = q % 65536 := ⟨_, rfl⟩
  obtain ⟨d2, h2⟩ : ∃ d, d = x / 4294967296 := ⟨_, rfl⟩
  have hdig : dig x = [d0, d1, d2] := by unfold dig; rw [h0, h1, h2, hq]
  have T0 : Int.tmod (x : Int) 65536 = (d0 : Int) := by rw [h0]; rfl
  have T1 : Int.tdiv (x : Int) 65536 = (q : Int) := by rw [hq]; rfl
  have T2 : Int.tmod (q : Int) 65536 = (d1 : Int) := by rw [h1]; rfl
  have T3 : Int.tdiv (x : Int) 4294967296 = (d2 : Int) := by rw [h2]; rfl
  have V0 : IntKind.i64.wrap (d0 : Int) = (d0 : Int) := by rw [IntWalk.i64_in _ (by omega)]
  have V1 : IntKind.i64.wrap (q : Int) = (q : Int) := by rw [IntWalk.i64_in _ (by omega)]
  have V2 : IntKind.i64.wrap (d1 : Int) = (d1 : Int) := by rw [IntWalk.i64_in _ (by omega)]
  have V3 : IntKind.i64.wrap (d2 : Int) = (d2 : Int) := by rw [IntWalk.i64_in _ (by omega)]
  have hnew : IntsAt (w.alloc (.cells #[.int .i64 d0, .int .i64 d1, .int .i64 d2] 3)) w.heap.size (dig x) := by rw [hdig]; exact heap_alloc_new _ _
  have hbe : Below w.heap.size w (w.alloc (.cells #[.int .i64 d0, .int .i64 d1, .int .i64 d2] 3)) := (Below.refl _ _).alloc (Nat.le_refl _) _
  have HNEW := Lib.hid hnew
  have HB0 := Lib.hid hbe
  clear h0 hq h1 h2 hdig hnew hbe hx
  go_enter Tryz.func108, Tryz.ntmps108
  go_wp2_with fail
  generalize w.alloc (.cells #[.int .i64 d0, .int .i64 d1, .int .i64 d2] 3) = W1 at *
  obtain ⟨g0, hg0⟩ : ∃ g, g = w.heap.size := ⟨_, rfl⟩
  rw [← hg0] at HNEW ⊢
  have HG0 := Lib.hid hg0; clear hg0
  refine (product_at (dig x) (dig x) g0 g0 3 3 6 W1 HNEW.out HNEW.out HDL.out HDL.out rfl rfl rfl (by decide)).mono ?_
  rintro e w1 ⟨o, g, rfl, hrow, ⟨hov, hol, holt⟩, hb1⟩
  rw [HVD.out] at hov
  have hbw : Below w.heap.size w w1 := HB0.out.trans (hb1.mono HB0.out.size)
  have hsm := hi_small o 4 (x * x) 256 hov (by rw [hol]; decide) (sq_lt x HXL.out)
  have hmost : (hiV o 4 0 < n ∨ (hiV o 4 0 = n ∧ loV o 4 0 = 0)) ↔ x ^ 2 ≤ n * 2 ^ (32 * 2) := by
    rw [(hi_end o 4).1, (hi_end o 4).2, most_of o 4 n holt (by rw [hol]; decide), hov, pow2]
  have HROW := Lib.hid hrow
  have HBW := Lib.hid hbw
  have HOL := Lib.hid hol
  have HSM := Lib.hid hsm
  have HMO := Lib.hid hmost
  have hs0 := hi_start o 4 6 hol.symm (by decide)
  have HS0 := Lib.hid hs0
  clear hb1 hrow hbw hov hol holt hsm hmost hs0
  go_wp2_with fail
  go_loopw [9, 10, 11] (fun a r i wr => ∃ (k : Nat) (ii : Int), k ≤ 6 ∧ ii = (k : Int) - 1 ∧ a = .int .i64 (hiV o 4 k) ∧ r = .bool (decide (loV o 4 k ≠ 0)) ∧ i = .int .i64 ii ∧ ∃ m, wr = w1.drewN m) (fun _ _ i _ => (intOf i + 1).toNat)
  case atStart => exact ⟨6, 5, Nat.le_refl _, rfl, by rw [HS0.out.1]; rfl, by rw [HS0.out.2]; rfl, rfl, 0, rfl⟩
  case round =>
    obtain ⟨k, ii, hk, hii, rfl, rfl, rfl, m, rfl⟩ := hrel
    cases k with
    | zero =>
      have hneg : ¬ ((0 : Int) ≤ ii) := by omega
      clear hii
      have hb := Below_drewN HBW.out m
      have HBB := Lib.hid hb
      have HM := HMO.out
      have HM1 := Lib.hid (fun h => HM.2 h)
      have HM2 := Lib.hid (fun h => HM.1 h)
      have hHn := HSM.out
      clear hb HM
      generalize hiV o 4 0 = H at *
      generalize loV o 4 0 = O at *
      rcases Nat.lt_trichotomy H n with h2 | h2 | h2
      · have c1 : (H : Int) < (n : Int) := by omega
        go_wp2
        go_ret
        exact ⟨ret_b (decide_eq_true (HM2.out (.inl h2))).symm, HBB.out⟩
      · subst h2
        by_cases h3 : O = 0
        · have e : decide (O ≠ 0) = false := by simp [h3]
          rw [e]
          go_wp2
          go_ret
          exact ⟨ret_b (decide_eq_true (HM2.out (.inr (by simp [h3])))).symm, HBB.out⟩
        · have e : decide (O ≠ 0) = true := by simp [h3]
          rw [e]
          go_wp2
          go_ret
          exact ⟨ret_b (decide_eq_false (fun h => by rcases HM1.out h with h | h <;> omega)).symm, HBB.out⟩
      · have c1 : ¬ ((H : Int) < (n : Int)) := by omega
        have c2 : ¬ ((H : Int) = (n : Int)) := by omega
        have c3 : ((H : Int) == (n : Int)) = false := by simp; omega
        go_wp2
        go_ret
        exact ⟨ret_b (decide_eq_false (fun h => by rcases HM1.out h with h | h <;> omega)).symm, HBB.out⟩
    | succ i =>
      obtain rfl : ii = (i : Int) := by omega
      clear hii
      have hil : i < o.length := by rw [HOL.out]; omega
      obtain ⟨z, hz⟩ : ∃ z, o[i]? = some z := ⟨_, List.getElem?_eq_getElem hil⟩
      have hc := IntsAt.cell (w := w1.drewN m) HROW.out i z hz
      have i0 : (0 : Int) ≤ (i : Int) := by omega
      have iL : (i : Int) < 6 := by omega
      by_cases hK : 4 ≤ i
      · have st := hi_step o 4 i z hK hz
        have hle := hi_le o 4 i
        rw [st.1] at hle
        have hsm := HSM.out
        have E1 := Lib.hid st.1
        have E2 := Lib.hid st.2.1
        have e3 : decide (loV o 4 (i + 1) ≠ 0) = false := by rw [st.2.2]; rfl
        rw [e3]
        generalize hiV o 4 (i + 1) = v at *
        generalize hiV o 4 0 = H at *
        obtain ⟨m1, hm1⟩ : ∃ m1, m1 = v * 65536 := ⟨_, rfl⟩
        obtain ⟨v2, hv2⟩ : ∃ v2, v2 = m1 + z := ⟨_, rfl⟩
        have W1' : IntKind.i64.wrap ((v : Int) * 65536) = (m1 : Int) := by rw [IntWalk.i64_in _ (by omega)]; omega
        have W2' : IntKind.i64.wrap ((m1 : Int) + (z : Int)) = (v2 : Int) := by rw [IntWalk.i64_in _ (by omega)]; omega
        have hV : Hid (hiV o 4 i = v2) := Lib.hid (by rw [E1.out, hv2, hm1])
        have iK : (4 : Int) ≤ (i : Int) := by omega
        clear st hle hsm e3 hm1 hv2 hz E1
        go_wp2
        go_roundw
        case rel => exact ⟨i, (i : Int) - 1, by omega, rfl, by rw [hV.out], by rw [E2.out]; rfl, rfl, _, rfl⟩
        case measure => simp [intOf]
      · have st := lo_step o 4 i z (by omega) hz
        have E1 := Lib.hid st.1
        have E2 := Lib.hid st.2
        have iK : ¬ ((4 : Int) ≤ (i : Int)) := by omega
        clear st hz
        by_cases hr : loV o 4 (i + 1) = 0
        · have e3 : decide (loV o 4 (i + 1) ≠ 0) = false := by rw [hr]; rfl
          rw [e3]
          have E3 := Lib.hid hr
          clear e3 hr
          by_cases hz0 : z = 0
          · have z1 : ((z : Int) == 0) = true := by simp [hz0]
            have Z0 := Lib.hid hz0; clear hz0
            go_wp2
            go_roundw
            case rel => exact ⟨i, (i : Int) - 1, by omega, rfl, by rw [E2.out], by rw [E1.out, E3.out, Z0.out]; rfl, rfl, _, rfl⟩
            case measure => simp [intOf]
          · have z1 : ((z : Int) == 0) = false := by simp [hz0]
            have z2 : ¬ ((z : Int) = 0) := by omega
            have Z0 := Lib.hid hz0; clear hz0
            go_wp2
            go_roundw
            case rel => exact ⟨i, (i : Int) - 1, by omega, rfl, by rw [E2.out], by rw [E1.out, E3.out]; simp [Z0.out], rfl, _, rfl⟩
            case measure => simp [intOf]
        · have e3 : decide (loV o 4 (i + 1) ≠ 0) = true := decide_eq_true hr
          rw [e3]
          have E3 := Lib.hid hr
          clear e3 hr
          go_wp2
          go_roundw
          case rel => exact ⟨i, (i : Int) - 1, by omega, rfl, by rw [E2.out], by rw [E1.out, bool_ne, decide_eq_true E3.out]; rfl, rfl, _, rfl⟩
          case measure => simp [intOf]

set_option maxRecDepth 100000 in
set_option maxHeartbeats 1000000 in
theorem most3_any (x n : Nat) (w : World) (hx : x < 68719476736) (hn : n < 512) :
    Calls Tryz.prog 108 #[.int .i64 x, .int .i64 3, .int .i64 n] w fun e w' => e = .returned (.bool (decide (x ^ 3 ≤ n * 2 ^ (32 * 3)))) ∧ Below w.heap.size w w' := by
  have HDL := Lib.hid (dig_lt x hx)
  have HVD := Lib.hid (val_dig x)
  have HXL := Lib.hid hx
  obtain ⟨d0, h0⟩ : ∃ d, d = x % 65536 := ⟨_, rfl⟩
  obtain ⟨q, hq⟩ : ∃ d, d = x / 65536 := ⟨_, rfl⟩
  obtain ⟨d1, h1⟩ : ∃ d, d = q % 65536 := ⟨_, rfl⟩
  obtain ⟨d2, h2⟩ : ∃ d, d = x / 4294967296 := ⟨_, rfl⟩
  have hdig : dig x = [d0, d1, d2] := by unfold dig; rw [h0, h1, h2, hq]
  have T0 : Int.tmod (x : Int) 65536 = (d0 : Int) := by rw [h0]; rfl
  have T1 : Int.tdiv (x : Int) 65536 = (q : Int) := by rw [hq]; rfl
  have T2 : Int.tmod (q : Int) 65536 = (d1 : Int) := by rw [h1]; rfl
  have T3 : Int.tdiv (x : Int) 4294967296 = (d2 : Int) := by rw [h2]; rfl
  have V0 : IntKind.i64.wrap (d0 : Int) = (d0 : Int) := by rw [IntWalk.i64_in _ (by omega)]
  have V1 : IntKind.i64.wrap (q : Int) = (q : Int) := by rw [IntWalk.i64_in _ (by omega)]
  have V2 : IntKind.i64.wrap (d1 : Int) = (d1 : Int) := by rw [IntWalk.i64_in _ (by omega)]
  have V3 : IntKind.i64.wrap (d2 : Int) = (d2 : Int) := by rw [IntWalk.i64_in _ (by omega)]
  have hnew : IntsAt (w.alloc (.cells #[.int .i64 d0, .int .i64 d1, .int .i64 d2] 3)) w.heap.size (dig x) := by rw [hdig]; exact heap_alloc_new _ _
  have hbe : Below w.heap.size w (w.alloc (.cells #[.int .i64 d0, .int .i64 d1, .int .i64 d2] 3)) := (Below.refl _ _).alloc (Nat.le_refl _) _
  have HNEW := Lib.hid hnew
  have HB0 := Lib.hid hbe
  clear h0 hq h1 h2 hdig hnew hbe hx
  go_enter Tryz.func108, Tryz.ntmps108
  go_wp2_with fail
  generalize w.alloc (.cells #[.int .i64 d0, .int .i64 d1, .int .i64 d2] 3) = W1 at *
  obtain ⟨g0, hg0⟩ : ∃ g, g = w.heap.size := ⟨_, rfl⟩
  rw [← hg0] at HNEW ⊢
  have HG0 := Lib.hid hg0; clear hg0
  refine (product_at (dig x) (dig x) g0 g0 3 3 6 W1 HNEW.out HNEW.out HDL.out HDL.out rfl rfl rfl (by decide)).mono ?_
  rintro e w1 ⟨o, g, rfl, hrow, ⟨hov, hol, holt⟩, hb1⟩
  rw [HVD.out] at hov
  have hbw : Below w.heap.size w w1 := HB0.out.trans (hb1.mono HB0.out.size)
  have HROW1 := Lib.hid hrow
  have HBW1 := Lib.hid hbw
  have HD1 := Lib.hid (HNEW.out.new hb1)
  have HOV1 := Lib.hid hov
  have HOL1 := Lib.hid hol
  have HOT1 := Lib.hid holt
  clear hb1 hrow hbw hov hol holt
  go_wp2_with fail
  refine (product_at o (dig x) g g0 6 3 9 w1 HROW1.out HD1.out HOT1.out HDL.out HOL1.out rfl rfl (by decide)).mono ?_
  rintro e w2 ⟨o2, g2, rfl, hrow, ⟨hov, hol, holt⟩, hb1⟩
  rw [HVD.out, HOV1.out] at hov
  have hbw : Below w.heap.size w w2 := HBW1.out.trans (hb1.mono HBW1.out.size)
  have hsm := hi_small o2 6 (x * x * x) 4096 hov (by rw [hol]; decide) (cube_lt x HXL.out)
  have hmost : (hiV o2 6 0 < n ∨ (hiV o2 6 0 = n ∧ loV o2 6 0 = 0)) ↔ x ^ 3 ≤ n * 2 ^ (32 * 3) := by
    rw [(hi_end o2 6).1, (hi_end o2 6).2, most_of o2 6 n holt (by rw [hol]; decide), hov, pow3]
  have HROW := Lib.hid hrow
  have HBW := Lib.hid hbw
  have HOL := Lib.hid hol
  have HSM := Lib.hid hsm
  have HMO := Lib.hid hmost
  have hs0 := hi_start o2 6 9 hol.symm (by decide)
  have HS0 := Lib.hid hs0
  clear hb1 hrow hbw hov hol holt hsm hmost hs0
  go_wp2_with fail
  go_loopw [9, 10, 11] (fun a r i wr => ∃ (k : Nat) (ii : Int), k ≤ 9 ∧ ii = (k : Int) - 1 ∧ a = .int .i64 (hiV o2 6 k) ∧ r = .bool (decide (loV o2 6 k ≠ 0)) ∧ i = .int .i64 ii ∧ ∃ m, wr = w2.drewN m) (fun _ _ i _ => (intOf i + 1).toNat)
  case atStart => exact ⟨9, 8, Nat.le_refl _, rfl, by rw [HS0.out.1]; rfl, by rw [HS0.out.2]; rfl, rfl, 0, rfl⟩
  case round =>
    obtain ⟨k, ii, hk, hii, rfl, rfl, rfl, m, rfl⟩ := hrel
    cases k with
    | zero =>
      have hneg : ¬ ((0 : Int) ≤ ii) := by omega
      clear hii
      have hb := Below_drewN HBW.out m
      have HBB := Lib.hid hb
      have HM := HMO.out
      have HM1 := Lib.hid (fun h => HM.2 h)
      have HM2 := Lib.hid (fun h => HM.1 h)
      have hHn := HSM.out
      clear hb HM
      generalize hiV o2 6 0 = H at *
      generalize loV o2 6 0 = O at *
      rcases Nat.lt_trichotomy H n with h2 | h2 | h2
      · have c1 : (H : Int) < (n : Int) := by omega
        go_wp2
        go_ret
        exact ⟨ret_b (decide_eq_true (HM2.out (.inl h2))).symm, HBB.out⟩
      · subst h2
        by_cases h3 : O = 0
        · have e : decide (O ≠ 0) = false := by simp [h3]
          rw [e]
          go_wp2
          go_ret
          exact ⟨ret_b (decide_eq_true (HM2.out (.inr (by simp [h3])))).symm, HBB.out⟩
        · have e : decide (O ≠ 0) = true := by simp [h3]
          rw [e]
          go_wp2
          go_ret
          exact ⟨ret_b (decide_eq_false (fun h => by rcases HM1.out h with h | h <;> omega)).symm, HBB.out⟩
      · have c1 : ¬ ((H : Int) < (n : Int)) := by omega
        have c2 : ¬ ((H : Int) = (n : Int)) := by omega
        have c3 : ((H : Int) == (n : Int)) = false := by simp; omega
        go_wp2
        go_ret
        exact ⟨ret_b (decide_eq_false (fun h => by rcases HM1.out h with h | h <;> omega)).symm, HBB.out⟩
    | succ i =>
      obtain rfl : ii = (i : Int) := by omega
      clear hii
      have hil : i < o2.length := by rw [HOL.out]; omega
      obtain ⟨z, hz⟩ : ∃ z, o2[i]? = some z := ⟨_, List.getElem?_eq_getElem hil⟩
      have hc := IntsAt.cell (w := w2.drewN m) HROW.out i z hz
      have i0 : (0 : Int) ≤ (i : Int) := by omega
      have iL : (i : Int) < 9 := by omega
      by_cases hK : 6 ≤ i
      · have st := hi_step o2 6 i z hK hz
        have hle := hi_le o2 6 i
        rw [st.1] at hle
        have hsm := HSM.out
        have E1 := Lib.hid st.1
        have E2 := Lib.hid st.2.1
        have e3 : decide (loV o2 6 (i + 1) ≠ 0) = false := by rw [st.2.2]; rfl
        rw [e3]
        generalize hiV o2 6 (i + 1) = v at *
        generalize hiV o2 6 0 = H at *
        obtain ⟨m1, hm1⟩ : ∃ m1, m1 = v * 65536 := ⟨_, rfl⟩
        obtain ⟨v2, hv2⟩ : ∃ v2, v2 = m1 + z := ⟨_, rfl⟩
        have W1' : IntKind.i64.wrap ((v : Int) * 65536) = (m1 : Int) := by rw [IntWalk.i64_in _ (by omega)]; omega
        have W2' : IntKind.i64.wrap ((m1 : Int) + (z : Int)) = (v2 : Int) := by rw [IntWalk.i64_in _ (by omega)]; omega
        have hV : Hid (hiV o2 6 i = v2) := Lib.hid (by rw [E1.out, hv2, hm1])
        have iK : (6 : Int) ≤ (i : Int) := by omega
        clear st hle hsm e3 hm1 hv2 hz E1
        go_wp2
        go_roundw
        case rel => exact ⟨i, (i : Int) - 1, by omega, rfl, by rw [hV.out], by rw [E2.out]; rfl, rfl, _, rfl⟩
        case measure => simp [intOf]
      · have st := lo_step o2 6 i z (by omega) hz
        have E1 := Lib.hid st.1
        have E2 := Lib.hid st.2
        have iK : ¬ ((6 : Int) ≤ (i : Int)) := by omega
        clear st hz
        by_cases hr : loV o2 6 (i + 1) = 0
        · have e3 : decide (loV o2 6 (i + 1) ≠ 0) = false := by rw [hr]; rfl
          rw [e3]
          have E3 := Lib.hid hr
          clear e3 hr
          by_cases hz0 : z = 0
          · have z1 : ((z : Int) == 0) = true := by simp [hz0]
            have Z0 := Lib.hid hz0; clear hz0
            go_wp2
            go_roundw
            case rel => exact ⟨i, (i : Int) - 1, by omega, rfl, by rw [E2.out], by rw [E1.out, E3.out, Z0.out]; rfl, rfl, _, rfl⟩
            case measure => simp [intOf]
          · have z1 : ((z : Int) == 0) = false := by simp [hz0]
            have z2 : ¬ ((z : Int) = 0) := by omega
            have Z0 := Lib.hid hz0; clear hz0
            go_wp2
            go_roundw
            case rel => exact ⟨i, (i : Int) - 1, by omega, rfl, by rw [E2.out], by rw [E1.out, E3.out]; simp [Z0.out], rfl, _, rfl⟩
            case measure => simp [intOf]
        · have e3 : decide (loV o2 6 (i + 1) ≠ 0) = true := decide_eq_true hr
          rw [e3]
          have E3 := Lib.hid hr
          clear e3 hr
          go_wp2
          go_roundw
          case rel => exact ⟨i, (i : Int) - 1, by omega, rfl, by rw [E2.out], by rw [E1.out, bool_ne, decide_eq_true E3.out]; rfl, rfl, _, rfl⟩
          case measure => simp [intOf]
end Go.Proofs.YtcbodpcekjngbaaGreat
/- The walks of the document's root and prime. -/
set_option linter.unusedVariables false
namespace Go.Proofs.YtcbodpcekjngbaaGreat
open Go.RowKit

theorem most_any (x p n : Nat) (w : World) (hp : p = 2 ∨ p = 3) (hx : x < 68719476736) (hn : n < 512) :
    Calls Tryz.prog 108 #[.int .i64 x, .int .i64 p, .int .i64 n] w fun e w' => e = .returned (.bool (decide (x ^ p ≤ n * 2 ^ (32 * p)))) ∧ Below w.heap.size w w' := by
  rcases hp with rfl | rfl
  · exact most2_any x n w hx hn
  · exact most3_any x n w hx hn
/-- What is to come of a root from X on, k bits to go. -/
structure RootIs (n p k X R : Nat) : Prop where
  e : rootR n p k X = R
  b : X + 2 ^ k ≤ 68719476736
theorem RootIs.yes {n p k X R : Nat} (h : RootIs n p (k + 1) X R) (hy : (X + 2 ^ k) ^ p ≤ n * 2 ^ (32 * p)) : RootIs n p k (X + 2 ^ k) R := by
  have e := h.e
  have b := h.b
  rw [Nat.pow_succ] at b
  unfold rootR at e
  rw [if_pos hy] at e
  exact ⟨e, by omega⟩
theorem RootIs.no {n p k X R : Nat} (h : RootIs n p (k + 1) X R) (hy : ¬ (X + 2 ^ k) ^ p ≤ n * 2 ^ (32 * p)) : RootIs n p k X R := by
  have e := h.e
  have b := h.b
  rw [Nat.pow_succ] at b
  unfold rootR at e
  rw [if_neg hy] at e
  exact ⟨e, by omega⟩

set_option maxRecDepth 100000 in
set_option maxHeartbeats 1000000 in
theorem refRoot_any (n p : Nat) (w : World) (hp : p = 2 ∨ p = 3) (hn : n < 512) :
    Calls Tryz.prog 74 #[.int .i64 n, .int .i64 p] w fun e w' => e = .returned (.int .i64 (rroot n p : Nat)) ∧ Below w.heap.size w w' := by
  obtain ⟨R, hR⟩ : ∃ R, R = rootR n p 36 0 := ⟨_, rfl⟩
  have hst : Hid (RootIs n p 36 0 R) := Lib.hid ⟨hR.symm, by decide⟩
  unfold rroot
  rw [← hR]
  clear hR
  have HP := Lib.hid hp; clear hp
  go_enter Tryz.func74, Tryz.ntmps74
  go_wp2
  go_loopw [5, 6] (fun x i wr => ∃ (k X : Nat) (ii : Int), k ≤ 36 ∧ ii = (k : Int) - 1 ∧ x = .int .i64 X ∧ i = .int .i64 ii ∧ RootIs n p k X R ∧ Below w.heap.size w wr) (fun _ i _ => (intOf i + 1).toNat)
  case atStart => exact ⟨36, 0, 35, Nat.le_refl _, rfl, rfl, rfl, hst.out, Below.refl _ _⟩
  case round =>
    obtain ⟨k, X, ii, hk, hii, rfl, rfl, hri, hbe⟩ := hrel
    have HBE := Lib.hid hbe; clear hbe
    cases k with
    | zero =>
      have hneg : ¬ ((0 : Int) ≤ ii) := by omega
      have e : R = X := hri.e.symm
      subst e
      have hb := hri.b
      clear hii hri
      go_wp2
      go_ret
      exact ⟨rfl, HBE.out⟩
    | succ i =>
      obtain rfl : ii = (i : Int) := by omega
      clear hii
      have i0 : (0 : Int) ≤ (i : Int) := by omega
      have hb := hri.b
      rw [Nat.pow_succ] at hb
      have HY := Lib.hid (fun h => hri.yes h)
      have HNO := Lib.hid (fun h => hri.no h)
      clear hri
      have H2 : (2 : Int) ^ i = ((2 ^ i : Nat) : Int) := by rw [Int.natCast_pow]; rfl
      have hpos : 0 < 2 ^ i := Nat.pow_pos (by decide)
      generalize 2 ^ i = M at *
      have SH : IntKind.i64.wrap ((1 : Int) * (2 : Int) ^ i) = (M : Int) := by rw [H2, IntWalk.i64_in _ (by omega)]; omega
      have hMb : (M : Int) ≤ 68719476736 := by omega
      have hyl : X + M < 68719476736 := by omega
      have MC := fun w' => Lib.hid (show Calls Tryz.prog 108 #[.int .i64 ((X : Int) + (M : Int)), .int .i64 p, .int .i64 n] w' _ from most_any (X + M) p n w' HP.out hyl hn)
      by_cases hc : (X + M) ^ p ≤ n * 2 ^ (32 * p)
      · have HR := Lib.hid (HY.out hc)
        have hd := decide_eq_true hc
        rw [hd] at MC
        clear hc hd HY HNO
        go_wp2_with fail
        refine (MC _).out.mono ?_
        rintro e w1 ⟨rfl, hb1⟩
        have HB1 := Lib.hid (HBE.out.trans (hb1.mono HBE.out.size))
        clear hb1 MC
        go_wp2_with fail
        go_roundw
        case rel => exact ⟨i, X + M, (i : Int) - 1, by omega, rfl, rfl, rfl, HR.out, HB1.out⟩
        case measure => simp [intOf]
      · have HR := Lib.hid (HNO.out hc)
        have hd := decide_eq_false hc
        rw [hd] at MC
        clear hc hd HY HNO
        go_wp2_with fail
        refine (MC _).out.mono ?_
        rintro e w1 ⟨rfl, hb1⟩
        have HB1 := Lib.hid (HBE.out.trans (hb1.mono HBE.out.size))
        clear hb1 MC
        go_wp2_with fail
        go_roundw
        case rel => exact ⟨i, X, (i : Int) - 1, by omega, rfl, rfl, rfl, HR.out, HB1.out⟩
        case measure => simp [intOf]
end Go.Proofs.YtcbodpcekjngbaaGreat
/- The walk of the document's prime. -/
set_option linter.unusedVariables false
namespace Go.Proofs.YtcbodpcekjngbaaGreat
open Go.RowKit

theorem prime_all : (List.range 312).all (fun n => decide (n < 2) || (decide (n ∈ PL) == (List.range 18).all (fun e => decide (e < 2) || decide (n < e * e) || decide (n % e ≠ 0)))) = true := by decide +kernel
theorem prime_at (n : Nat) (hn : n < 312) (h2 : 2 ≤ n) : decide (n ∈ PL) = (List.range 18).all (fun e => decide (e < 2) || decide (n < e * e) || decide (n % e ≠ 0)) := by
  have := all_lt 312 _ prime_all n hn
  rw [decide_eq_false (by omega : ¬ n < 2), Bool.false_or] at this
  exact beq_iff_eq.1 this
theorem small_root (n e : Nat) (hn : n < 312) (h : e * e ≤ n) : e < 18 := by
  rcases Nat.lt_or_ge e 18 with h1 | h1
  · exact h1
  · have := Nat.mul_le_mul h1 h1
    omega
theorem prime_yes (n : Nat) (hn : n < 312) (h2 : 2 ≤ n) (h : ∀ e, 2 ≤ e → e * e ≤ n → n % e ≠ 0) : n ∈ PL := by
  have e := prime_at n hn h2
  rw [List.all_eq_true.2] at e
  · exact of_decide_eq_true e
  · intro e _
    by_cases h1 : e < 2
    · simp [h1]
    · by_cases h3 : n < e * e
      · simp [h3]
      · simp [h e (by omega) (by omega)]
theorem prime_no (n e : Nat) (hn : n < 312) (h2 : 2 ≤ n) (he : 2 ≤ e) (hl : e * e ≤ n) (hd : n % e = 0) : n ∉ PL := by
  intro hm
  have q := prime_at n hn h2
  rw [decide_eq_true hm] at q
  have := List.all_eq_true.1 q.symm e (List.mem_range.2 (small_root n e hn hl))
  simp [hd] at this
  omega
/-- Nothing from 2 on below d divides n. -/
def NoDiv (n d : Nat) : Prop := ∀ e, 2 ≤ e → e < d → n % e ≠ 0
theorem NoDiv.next {n d : Nat} (h : NoDiv n d) (hd : n % d ≠ 0) : NoDiv n (d + 1) := by
  intro e h1 h2
  rcases Nat.lt_or_ge e d with h3 | h3
  · exact h e h1 h3
  · obtain rfl : e = d := by omega
    exact hd
theorem NoDiv.prime {n d : Nat} (h : NoDiv n d) (hn : n < 312) (h2 : 2 ≤ n) (hd : n < d * d) : n ∈ PL := by
  refine prime_yes n hn h2 fun e h1 h3 => h e h1 ?_
  rcases Nat.lt_or_ge e d with h4 | h4
  · exact h4
  · have := Nat.mul_le_mul h4 h4
    omega

set_option maxRecDepth 100000 in
set_option maxHeartbeats 1000000 in
theorem refPrime_any (n : Nat) (w : World) (hn : n < 312) (h2 : 2 ≤ n) :
    Calls Tryz.prog 73 #[.int .i64 n] w fun e w' => e = .returned (.bool (decide (n ∈ PL))) ∧ Below w.heap.size w w' := by
  have H0 := Lib.hid (show NoDiv n 2 from fun e h1 h3 => by omega)
  have HY := Lib.hid (fun d (h : NoDiv n d) hd => h.prime hn h2 hd)
  have HNO := Lib.hid (fun d he hl hd => prime_no n d hn h2 he hl hd)
  obtain ⟨B, hB⟩ : ∃ B, B = decide (n ∈ PL) := ⟨_, rfl⟩
  rw [← hB]
  have HB := Lib.hid hB
  clear hB
  go_enter Tryz.func73, Tryz.ntmps73
  go_wp2
  go_loopw [3] (fun i wr => ∃ d : Nat, 2 ≤ d ∧ d ≤ 18 ∧ i = .int .i64 d ∧ NoDiv n d ∧ Below w.heap.size w wr) (fun i _ => 400 - (intOf i).toNat)
  case atStart => exact ⟨2, Nat.le_refl _, by decide, rfl, H0.out, Below.refl _ _⟩
  case round =>
    obtain ⟨d, hd2, hd18, rfl, hnd, hbe⟩ := hrel
    have HND := Lib.hid hnd
    have HBE := Lib.hid hbe
    clear hnd hbe
    obtain ⟨q, hq⟩ : ∃ q, q = d * d := ⟨_, rfl⟩
    have hqb : q ≤ 324 := by
      have := Nat.mul_le_mul hd18 hd18
      omega
    have HQ := Lib.hid hq
    have WQ : IntKind.i64.wrap ((d : Int) * (d : Int)) = (q : Int) := by
      have e : ((d : Int) * (d : Int)) = (q : Int) := by rw [hq, Int.natCast_mul]
      rw [e, IntWalk.i64_in _ (by omega)]
    clear hq
    by_cases hle : q ≤ n
    · have hd17 : d < 18 := small_root n d hn (by rw [← HQ.out]; exact hle)
      have qi : (q : Int) ≤ (n : Int) := by omega
      obtain ⟨r, hr⟩ : ∃ r, r = n % d := ⟨_, rfl⟩
      have TM : Int.tmod (n : Int) (d : Int) = (r : Int) := by rw [hr]; rfl
      have d0 : ¬ ((d : Int) = 0) := by omega
      have hrb : r < 312 := by rw [hr]; exact Nat.lt_of_le_of_lt (Nat.mod_le _ _) hn
      have WR : IntKind.i64.wrap (r : Int) = (r : Int) := by rw [IntWalk.i64_in _ (by omega)]
      by_cases hz : r = 0
      · have HF : Hid (B = false) := Lib.hid (HB.out.trans (decide_eq_false (HNO.out d hd2 (by rw [← HQ.out]; exact hle) (by rw [← hr]; exact hz))))
        have z1 : ((r : Int) == 0) = true := by simp [hz]
        clear hr hz
        go_wp2
        go_ret
        exact ⟨ret_b HF.out.symm, HBE.out⟩
      · have HN2 := Lib.hid (HND.out.next (by rw [← hr]; exact hz))
        have z1 : ((r : Int) == 0) = false := by simp [hz]
        have z2 : ¬ ((r : Int) = 0) := by omega
        clear hr hz
        go_wp2
        go_roundw
        case rel => exact ⟨d + 1, by omega, by omega, rfl, HN2.out, HBE.out⟩
        case measure => simp [intOf]; omega
    · have HF : Hid (B = true) := Lib.hid (HB.out.trans (decide_eq_true (HY.out d HND.out (by rw [← HQ.out]; omega))))
      have qi : ¬ ((q : Int) ≤ (n : Int)) := by omega
      have n2 : (2 : Int) ≤ (n : Int) := by omega
      go_wp2
      go_ret
      exact ⟨ret_b HF.out.symm, HBE.out⟩
end Go.Proofs.YtcbodpcekjngbaaGreat
/- The walk of the document's Roots. -/
set_option linter.unusedVariables false
namespace Go.Proofs.YtcbodpcekjngbaaGreat
open Go.RowKit

/-- The roots found ahead of n. -/
def rootsTo (p n : Nat) : List Nat := (PL.take (cntP n)).map fun q => rroot q p
theorem rootsTo_length (p n : Nat) : (rootsTo p n).length = cntP n := by
  unfold rootsTo
  rw [List.length_map, List.length_take, PL_length]
  exact Nat.min_eq_left (cntP_le n)
theorem rootsTo_two (p : Nat) : rootsTo p 2 = [] := by
  unfold rootsTo
  rw [cntP_two]
  rfl
theorem rootsTo_new (p n : Nat) (hn : n < 312) (h : n ∈ PL) : rootsTo p (n + 1) = rootsTo p n ++ [rroot n p] ∧ cntP (n + 1) = cntP n + 1 := by
  have e := pr_new n hn h
  have h64 := cntP_le (n + 1)
  rw [e.1] at h64
  refine ⟨?_, e.1⟩
  unfold rootsTo
  rw [e.1, take_pr _ (by omega), List.map_append, e.2]
  rfl
theorem rootsTo_old (p n : Nat) (hn : n < 312) (h : n ∉ PL) : rootsTo p (n + 1) = rootsTo p n ∧ cntP (n + 1) = cntP n := by
  have e := pr_old n hn h
  unfold rootsTo
  rw [e]
  exact ⟨rfl, rfl⟩

set_option maxRecDepth 100000 in
set_option maxHeartbeats 1000000 in
theorem rootsR_any (c p : Nat) (w : World) (hp : p = 2 ∨ p = 3) (hc : c ≤ 64) :
    Calls Tryz.prog 40 #[.int .i64 c, .int .i64 p] w fun e w' => ∃ v, e = .returned v ∧ OwnL encN w' w.heap.size 3 v ((PL.take c).map fun q => rroot q p) ∧ Below w.heap.size w w' := by
  have HP := Lib.hid hp; clear hp
  go_enter Tryz.func40, Tryz.ntmps40
  go_wp2
  go_loopw [5, 6] (fun v i wr => ∃ (n : Nat), 2 ≤ n ∧ n ≤ 312 ∧ i = .int .i64 n ∧ cntP n ≤ c ∧ OwnL encN wr w.heap.size 3 v (rootsTo p n) ∧ Below w.heap.size w wr) (fun _ i _ => 400 - (intOf i).toNat)
  case atStart => exact ⟨2, Nat.le_refl _, by decide, rfl, by rw [cntP_two]; exact Nat.zero_le _, by rw [rootsTo_two]; exact OwnL.nil _ _ _ _, Below.refl _ _⟩
  case round =>
    obtain ⟨n, h2, hn, rfl, hcn, hown, hbe⟩ := hrel
    have hlen := rootsTo_length p n
    obtain ⟨a, cap, rfl, _⟩ := hown.row
    rw [hlen]
    rw [hlen] at hown
    have HBE := Lib.hid hbe; clear hbe
    have hsz := HBE.out.size
    by_cases hlt : cntP n < c
    · have hn312 : n < 312 := by
        rcases Nat.lt_or_ge n 312 with h | h
        · exact h
        · have e : n = 312 := by omega
          rw [e, cntP_all] at hlt
          omega
      have C1 := Lib.hid (refPrime_any n)
      have C2 := Lib.hid (fun w' => refRoot_any n p w' HP.out (by omega))
      have HN := Lib.hid (fun h => rootsTo_new p n hn312 h)
      have HO := Lib.hid (fun h => rootsTo_old p n hn312 h)
      have Hown := Lib.hid hown
      have Hlen := Lib.hid hlen
      clear hown hlen
      generalize cntP n = m at *
      have mi : (m : Int) < (c : Int) := by omega
      by_cases hpr : n ∈ PL
      · have hd := decide_eq_true hpr
        have C1' := Lib.hid (fun w' => C1.out w' hn312 h2)
        rw [hd] at C1'
        have HN' := Lib.hid (HN.out hpr)
        clear C1 HN HO hd hpr
        generalize rroot n p = y at *
        go_wp2_with fail
        refine (C1'.out _).mono ?_
        rintro e w1 ⟨rfl, hb1⟩
        have hsz1 := hb1.size
        have HB1 := Lib.hid (HBE.out.trans (hb1.mono HBE.out.size))
        have Hown1 := Lib.hid (Hown.out.kept (Kept.new hb1 (fun _ => False)) (fun _ _ h => h))
        clear hb1 HBE
        go_wp2_with fail
        refine (C2.out _).mono ?_
        rintro e w2 ⟨rfl, hb2⟩
        have hsz2 := hb2.size
        have HB2 := Lib.hid (HB1.out.trans (hb2.mono HB1.out.size))
        have Hown2 := Lib.hid (Hown1.out.kept (Kept.new hb2 (fun _ => False)) (fun _ _ h => h))
        clear hb2 HB1 Hown1
        have hb0 : w.heap.size ≤ w2.heap.size := HB2.out.size
        go_wp2_with (at_builtin; refine append_elem (enc := encN) (y := y) rfl _ _ 22 3 (.int .i64 0) 8 (by rfl) Tryz.underlying22 info_int rfl w.heap.size _ _ rfl (by rfl) Hown2.out (by rfl) (by rw [Hlen.out]; omega) (by rw [Hlen.out]; unfold maxLen; omega) hb0 ?_; intro v' w3 hown3 hb3 hk3; have H3 := Lib.hid hown3; clear hown3 hk3)
        have HB3 := Lib.hid (HB2.out.trans hb3)
        clear hb3
        go_wp2
        go_roundw
        case rel => exact ⟨n + 1, by omega, by omega, rfl, by rw [HN'.out.2]; exact hlt, by rw [HN'.out.1]; exact H3.out, HB3.out⟩
        case measure => simp [intOf]; omega
      · have hd := decide_eq_false hpr
        have C1' := Lib.hid (fun w' => C1.out w' hn312 h2)
        rw [hd] at C1'
        have HO' := Lib.hid (HO.out hpr)
        clear C1 HN HO hd hpr
        go_wp2_with fail
        refine (C1'.out _).mono ?_
        rintro e w1 ⟨rfl, hb1⟩
        have HB1 := Lib.hid (HBE.out.trans (hb1.mono HBE.out.size))
        have Hown1 := Lib.hid (Hown.out.kept (Kept.new hb1 (fun _ => False)) (fun _ _ h => h))
        clear hb1 HBE
        go_wp2
        go_roundw
        case rel => exact ⟨n + 1, by omega, by omega, rfl, by rw [HO'.out.2]; exact hcn, by rw [HO'.out.1]; exact Hown1.out, HB1.out⟩
        case measure => simp [intOf]; omega
    · have e : cntP n = c := by omega
      have hr : rootsTo p n = (PL.take c).map fun q => rroot q p := by unfold rootsTo; rw [e]
      rw [hr] at hown
      have Hown := Lib.hid hown
      have mi : ¬ ((cntP n : Int) < (c : Int)) := by omega
      clear hr hown e hlen
      generalize cntP n = m at *
      go_wp2
      go_ret
      exact ⟨_, rfl, by have h := Hown.out; rw [List.map_take] at h; exact h, HBE.out⟩
end Go.Proofs.YtcbodpcekjngbaaGreat
/- A region that draws its order whose head only reads and calls quietly (callees may draw) and whose tail stands in one forced order: the head walked once, then the tail as it stands. Of no program. -/
set_option linter.unusedVariables false
namespace Go.Proofs.YtcbodpcekjngbaaGreat
section
variable {P : Program} {ops : Array Oper} {md : Region.Mode} {C : World → Prop} {n : Nat}

/-- Each of the head but the first is waited for by one behind it, up to number n. -/
def sinkTail (md : Region.Mode) (ops : Array Oper) (n : Nat) : Bool := (List.range n).all fun i => i == 0 || (List.range (n + 1)).any fun j => decide (i < j) && Region.waitsFor md ops j i
def quietTailB (md : Region.Mode) (ops : Array Oper) (n : Nat) : Bool :=
  Region.noSelect ops && decide (0 < n) && decide (n < ops.size) && sinkTail md ops n && Region.chainB md ops n && Region.free md ops (Array.replicate ops.size false) 0 && (Region.ready md ops (Array.replicate ops.size false)).contains 0 &&
    Region.lexHead md ops (ops.size - n) (n - 1) 1 ((Array.replicate ops.size false).setIfInBounds 0 true)
theorem tail_late (hs : sinkTail md ops n = true) (hc : Region.chainB md ops n = true) (hn : n < ops.size) {seen : Array Bool} (inv : HeadInv md ops n seen) (h0 : seen.getD 0 false = true) (d : Nat) :
    ∀ i, n - i = d → i < n → seen.getD i true = false → ∀ t, n ≤ t → t ∉ Region.ready md ops seen := by
  induction d using Nat.strongRecOn with
  | _ d ih =>
    intro i hd hi hun t ht hr
    obtain ⟨_, ot, hot, hall⟩ := mem_ready.1 hr
    have htl : t < ops.size := (Array.getElem?_eq_some_iff.1 hot).1
    rcases Nat.lt_or_ge n t with htn | htn
    · have h1 := List.all_eq_true.1 hc t (List.mem_range.2 htl)
      rw [Bool.or_eq_true, decide_eq_true_eq] at h1
      obtain ⟨o', ho', e, he, hb, hon⟩ := Region.waitsFor_spec (h1.resolve_left (by omega))
      obtain rfl : o' = ot := Option.some.inj (ho'.symm.trans hot)
      have h2 := hall e he hb
      rw [hon, getD_both (inv.tail (t - 1) (by omega) (by omega))] at h2
      cases h2
    · obtain rfl : t = n := by omega
      have h1 := List.all_eq_true.1 hs i (List.mem_range.2 hi)
      rw [Bool.or_eq_true, beq_iff_eq] at h1
      have hi0 : i ≠ 0 := by
        intro e
        rw [e] at hun
        rw [getD_both hun] at h0
        cases h0
      obtain ⟨j, hj, h2⟩ := List.any_eq_true.1 (h1.resolve_left hi0)
      rw [Bool.and_eq_true, decide_eq_true_eq] at h2
      obtain ⟨oj, hoj, e, he, hb, hon⟩ := Region.waitsFor_spec h2.2
      have hjt : j ≤ t := by have := List.mem_range.1 hj; omega
      by_cases hl : seen.getD j false = true
      · have h3 := inv.closed j oj hoj hl e he hb
        rw [hon, getD_both hun] at h3
        cases h3
      · have hjf : seen.getD j false = false := by simpa using hl
        rcases Nat.lt_or_ge j t with hlt | hge
        · exact ih (t - j) (by omega) j rfl hlt (getD_in (by rw [inv.size]; omega) hjf) t (Nat.le_refl _) hr
        · obtain rfl : j = t := by omega
          obtain rfl : oj = ot := Option.some.inj (hoj.symm.trans hot)
          have h3 := hall e he hb
          rw [hon, getD_both hun] at h3
          cases h3

/-- Whatever number of the head is picked from here on, each is quiet; L holds of what is left when all were. -/
def anyHead (P : Program) (md : Region.Mode) (ops : Array Oper) (C : World → Prop) (n : Nat) (L : Array Bool → Act → Prop) : Nat → Array Bool → Act → Prop
  | 0, seen, a => L seen a
  | f + 1, seen, a => (∃ i, i ∈ Region.ready md ops seen) ∧ ∀ i ∈ Region.ready md ops seen, i < n ∧ qOp P ops C i (anyHead P md ops C n L f (seen.setIfInBounds i true)) a

theorem anyHead_any {g : Nat} {L : Array Bool → Act → Prop} {Q' : Exit → Act → World → Prop} (hL : ∀ seen a w, C w → L seen a → wpAny P md ops Q' g seen a w) (f : Nat) :
    ∀ seen a w, C w → anyHead P md ops C n L f seen a → wpAny P md ops Q' (f + g) seen a w := by
  induction f with
  | zero => intro seen a w hw h; rw [Nat.zero_add]; exact hL _ _ _ hw h
  | succ f ih =>
    intro seen a w hw h
    rw [Nat.add_right_comm]
    refine ⟨fun h0 => ?_, fun i hi => wpOp_of_qOp hw (fun a' w' hw' h' => ih _ _ _ hw' h') (h.2 i hi).2⟩
    obtain ⟨i, hi⟩ := h.1
    rw [h0] at hi
    cases hi

/-- One of the head that may come now, and yields its value in every world of the class, may be taken first. -/
theorem anyHead_pull {i : Nat} {oi : Oper} {v : Value} {L : Array Bool → Act → Prop} (hsel : Region.noSelect ops = true) (hs : sinkTail md ops n = true) (hc : Region.chainB md ops n = true) (hn : n < ops.size)
    (hi : ops[i]? = some oi) (hin : i < n) (hL : ∀ seen a, L seen a → ∀ j ∈ Region.ready md ops seen, n ≤ j) (f : Nat) :
    ∀ seen a, HeadInv md ops n seen → seen.getD 0 false = true → i ∈ Region.ready md ops seen →
      (∀ j oj, ops[j]? = some oj → j ≠ i → seen.getD j true = false → (∀ e ∈ oj.after, Region.binds md e = true → e.on ≠ i) → oi.apart ops oj = true) →
      YieldsIn P ops C oi v a → anyHead P md ops C n L f (seen.setIfInBounds i true) (a.put oi.dst v) → anyHead P md ops C n L (f + 1) seen a := by
  induction f with
  | zero =>
    intro seen a inv z hr free hy H
    refine ⟨⟨i, hr⟩, fun j hj => ?_⟩
    have hun := (mem_ready.1 hr).1
    have hjn : j < n := Nat.lt_of_not_le fun h => tail_late hs hc hn inv z _ i rfl hin hun j h hj
    refine ⟨hjn, ?_⟩
    by_cases e : j = i
    · subst e; exact hy.qOp hi H
    · have := hL _ _ H j (ready_mono hj e)
      omega
  | succ f ih =>
    intro seen a inv z hr free hy H
    refine ⟨⟨i, hr⟩, fun j hj => ?_⟩
    have hun := (mem_ready.1 hr).1
    have hjn : j < n := Nat.lt_of_not_le fun h => tail_late hs hc hn inv z _ i rfl hin hun j h hj
    refine ⟨hjn, ?_⟩
    by_cases e : j = i
    · subst e; exact hy.qOp hi H
    · obtain ⟨hjun, oj, hoj, hall⟩ := mem_ready.1 hj
      have away : ∀ d ∈ oj.after, Region.binds md d = true → d.on ≠ i := by
        intro d hd hb he
        have h1 := hall d hd hb
        rw [he, getD_both hun] at h1
        cases h1
      have h2 := qOp_put hoj (free j oj hoj e hjun away) (fun cs b => Region.noSelect_spec hsel i oi cs b hi) (fun cs b => Region.noSelect_spec hsel j oj cs b hoj) hy (H.2 j (ready_mono hj e)).2
      refine qOp_mono (fun a' h3 => ih _ a' (inv.set hj hjn) (getD_set_true z) (ready_mono hr (Ne.symm e)) ?_ h3.1 ?_) h2
      · intro k ok hk hki hkun hno
        refine free k ok hk hki ?_ hno
        by_cases hjk : j = k
        · subst hjk; exact hjun
        · rwa [getD_set_ne true hjk] at hkun
      · rw [Array.setIfInBounds_comm _ _ e]
        exact h3.2

theorem anyHead_lex {g : Nat} {T : Act → Prop} (hsel : Region.noSelect ops = true) (hs : sinkTail md ops n = true) (hc : Region.chainB md ops n = true) (hn : n < ops.size) (l : List Oper) :
    ∀ k seen a, (∀ j, j < l.length → l[j]? = ops[k + j]?) → k + l.length = n → HeadInv md ops n seen → seen.getD 0 false = true → Region.lexHead md ops g l.length k seen = true → wpQuiet P ops C T l a →
    anyHead P md ops C n (fun seen' a' => Region.seqB md ops g n seen' = true ∧ T a') l.length seen a := by
  induction l with
  | nil =>
    intro k seen a _ hk _ _ hB h
    obtain rfl : k = n := hk
    exact ⟨hB, h⟩
  | cons o l ih =>
    intro k seen a hl hk inv z hB h
    have h0 : ops[k]? = some o := (hl 0 (Nat.succ_pos _)).symm
    simp only [List.length_cons, Region.lexHead, Bool.and_eq_true] at hB
    have hr : k ∈ Region.ready md ops seen := by simpa using hB.1.1
    have hkn : k < n := by rw [List.length_cons] at hk; omega
    have hq : qOp P ops C k (wpQuiet P ops C T l) a := by unfold qOp; simp only [h0]; exact h
    obtain ⟨v, hy, hK⟩ := yieldsIn_of_qOp h0 hq
    refine anyHead_pull hsel hs hc hn h0 hkn (fun seen' a' hL => seqB_ready hL.1) l.length seen a inv z hr (Region.free_spec h0 hB.1.2) hy ?_
    refine ih (k + 1) _ _ (fun j hj => ?_) (by rw [List.length_cons] at hk; omega) (inv.set hr hkn) (getD_set_true z) hB.2 hK
    have := hl (j + 1) (Nat.succ_lt_succ hj)
    rw [List.getElem?_cons_succ] at this
    rw [this, Nat.add_assoc, Nat.add_comm 1 j]

theorem wp_region_quiet_tail {id : Nat} {Q : Exit → Act → World → Prop} {a : Act} {w : World} {o : Oper} {l : List Oper} {v : Value} (n : Nat) (hm : P.follows .mixedOrders = true) (hB : quietTailB .any (o :: l).toArray (n + 1) = true)
    (hQ : ∀ c a w, Q (.panic c) (a.put o.dst v) w → Q (.panic c) a w) (hy : Yields P (o :: l).toArray o v a)
    (h : wpQuiet P (o :: l).toArray (fun w' => ∃ m, w' = w.drewN m) (fun a' => ∀ w', (∃ m, w' = w.drewN m) → wpList P (o :: l).toArray Q (l.drop n) a' w') (l.take n) (a.put o.dst v)) : (Code.region id (o :: l).toArray true).wp P Q a w := by
  simp only [quietTailB, Bool.and_eq_true, decide_eq_true_eq] at hB
  obtain ⟨⟨⟨⟨⟨⟨⟨hsel, _⟩, hn⟩, hs⟩, hc⟩, hf⟩, hr⟩, hlex⟩ := hB
  have hnl : n < l.length := by simpa using hn
  have ht : (l.take n).length = n := by rw [List.length_take]; omega
  have hd : (l.drop n).length = (o :: l).toArray.size - (n + 1) := by rw [List.length_drop, List.size_toArray, List.length_cons]; omega
  have inv0 : HeadInv .any (o :: l).toArray (n + 1) (Array.replicate (o :: l).toArray.size false) := by
    refine ⟨by simp, fun j oj _ hj => ?_, fun t _ hj => getD_in (by simpa using hj) (getD_replicate_false _ _)⟩
    rw [getD_replicate_false] at hj
    cases hj
  have inv := inv0.set (by simpa using hr) (Nat.succ_pos n)
  have z : ((Array.replicate (o :: l).toArray.size false).setIfInBounds 0 true).getD 0 false = true := by simp
  have H := anyHead_lex (g := (o :: l).toArray.size - (n + 1)) hsel hs hc hn (l.take n) 1 _ _ (fun j hj => by
    rw [ht] at hj
    rw [List.getElem?_take_of_lt hj, Nat.add_comm 1 j]
    simp) (by rw [ht, Nat.add_comm]) inv z (by rw [ht]; exact hlex) h
  have R := anyHead_any (C := fun w' => ∃ m, w' = w.drewN m) (Q' := Q) (g := (o :: l).toArray.size - (n + 1)) (fun seen a' w' hw' hL => by
    have := wpAny_of_seq (md := .any) (Q' := Q) (l.drop n) (n + 1) seen a' w' (fun j => by rw [List.getElem?_drop, show n + 1 + j = (n + j) + 1 by omega]; simp) (by rw [hd]; exact hL.1) (hL.2 w' hw')
    rwa [hd] at this) _ _ _ _ ⟨1, rfl⟩ H
  refine wp_region_any hm ?_
  have e : (o :: l).toArray.size = ((l.take n).length + ((o :: l).toArray.size - (n + 1))) + 1 := by
    rw [ht, List.size_toArray, List.length_cons]; omega
  have T := wpAny_take (md := .any) (oi := o) (by simp) hsel hf hr hQ hy R
  rw [← e] at T
  exact T
end
end Go.Proofs.YtcbodpcekjngbaaGreat
/- Cells of a row from a place on; a row of the call's own as cells; a copy of a row. Of no program. -/
set_option linter.unusedVariables false
namespace Go.Proofs.YtcbodpcekjngbaaGreat
open Go.RowKit

/-- Cells of a row from a place on. -/
def CellsFrom {α : Type} (enc : α → Value) (w : World) (p o : Nat) (xs : List α) : Prop := ∀ i (h : i < xs.length), w.cell? ⟨p, o + i, none⟩ = some (enc xs[i])
theorem CellsFrom.new {α : Type} {enc : α → Value} {w w' : World} {p o B : Nat} {xs : List α} (h : CellsFrom enc w p o xs) (hp : p < B) (hb : Below B w w') : CellsFrom enc w' p o xs :=
  fun i hi => by rw [World.cell?_of_block (w := w) (hb.block p hp)]; exact h i hi
theorem CellsFrom.of_own {α : Type} {enc : α → Value} {w : World} {base : Nat} {e : TypeId} {g n cap : Nat} {xs : List α} (h : OwnL enc w base e (.slice (some ⟨g, 0, none⟩) n cap) xs) : CellsFrom enc w g 0 xs := by
  obtain ⟨a, c, he, hc⟩ := h.row
  intro i hi
  obtain ⟨b, off, rfl, _, h2⟩ := hc i hi
  injection he with e1 e2 e3
  injection e1 with e1
  injection e1 with e4 e5
  subst e4
  subst e5
  exact h2
def encB (b : UInt8) : Value := .int .u8 (b.toNat : Int)
/-- Of the call's own, and not empty: a block. -/
theorem OwnL.block {α : Type} {enc : α → Value} {w : World} {base : Nat} {e : TypeId} {v : Value} {xs : List α} (h : OwnL enc w base e v xs) (hx : xs ≠ []) : ∃ g cap, v = .slice (some ⟨g, 0, none⟩) xs.length cap ∧ base ≤ g ∧ g < w.heap.size ∧ CellsFrom enc w g 0 xs := by
  rcases h.2 with ⟨rfl, hn⟩ | ⟨g, cap, cur, rfl, hb, hg, _⟩
  · exact absurd (List.eq_nil_of_length_eq_zero hn) hx
  · exact ⟨g, cap, rfl, hb, (Array.getElem?_eq_some_iff.1 hg).1, CellsFrom.of_own h⟩
section
variable {P : Program}
/-- 'append([]T{}, xs...)': a copy of the call's own. -/
theorem append_copy {α : Type} {enc : α → Value} {w : World} {ops : Array Oper} {rest : List Oper} {o : Oper} {a : Act} {Q : Exit → Act → World → Prop} (hgd : o.guard = none) (s x : Operand) (t e : TypeId) (z : Value) (bytes : Nat)
    (ho : o.op = .call { callee := .builtin .append, args := #[s, x], argTypes := #[t, t] }) (ht : P.underlying t = some (.slice e))
    (hinfo : (P.info? e).map (fun i => (i.zero, i.size, i.bytes)) = some (some z, 1, bytes)) (hz : z.cells.size = 1)
    (base : Nat) (hs : a.eval s = .slice (some ⟨w.heap.size, 0, none⟩) 0 0) (xs : List α) (hone : ∀ y, (enc y).oneCell' = true) (p n c : Nat) (hx : a.eval x = .slice (some ⟨p, 0, none⟩) n c) (hn : xs.length = n) (hp : p < w.heap.size) (hcell : CellsFrom enc w p 0 xs)
    (hlen : n * bytes ≤ 140737488355328) (hlen2 : n ≤ maxLen) (hbase : base ≤ w.heap.size)
    (h : ∀ v' w', OwnL enc w' base e v' xs → Below base w w' → wpList P ops Q rest (a.put o.dst v') w') :
    wpList P ops Q (o :: rest) a (w.alloc (.cells #[] e)) := by
  obtain ⟨i0, hi, hz0, hz1, hz2⟩ := info_parts hinfo
  have hb0 : Below base w (w.alloc (.cells #[] e)) := (Below.refl base w).alloc hbase _
  have hc2 := hcell.new hp ((Below.refl w.heap.size w).alloc (Nat.le_refl _) (.cells #[] e))
  subst hn
  refine wpList_append_own _ hgd s x t ho base e i0 z 1 bytes ht hi hz0 hz1 hz2 hz (by decide) _ 0 [] hs (World.ownsRow_lit w #[] 0 hbase (by decide) rfl) ⟨p, 0, none⟩ xs.length c (xs.map enc) hx (by simp) ?_ ?_ (by rw [Nat.zero_add]; exact hlen2) (by rw [Nat.zero_add]; exact hlen) (by simp; omega) ?_
  · intro j u hj
    rw [List.getElem?_map] at hj
    obtain ⟨y, hy, rfl⟩ := Option.map_eq_some_iff.1 hj
    obtain ⟨hjl, rfl⟩ := List.getElem?_eq_some_iff.1 hy
    have := hc2 j hjl
    rw [show (⟨p, 0, none⟩ : Addr).add j = ⟨p, 0 + j, none⟩ by unfold Addr.add; split <;> simp_all]
    exact this
  · intro u hu
    rw [List.mem_map] at hu
    obtain ⟨y, _, rfl⟩ := hu
    exact hone y
  · intro v' w' hown hg _
    refine h v' w' ?_ (hb0.grown hg (by simp; omega) (fun k hk => ?_))
    · unfold OwnL
      simpa using hown
    · simp [Value.ownBlock] at hk
      omega
end
end Go.Proofs.YtcbodpcekjngbaaGreat
/- The walk of the document's block: a state goes on by a block of 64 bytes. -/
set_option linter.unusedVariables false
namespace Go.Proofs.YtcbodpcekjngbaaGreat
open Go.RowKit

/-- The first k words of a block. -/
def wordsTo (l : List UInt8) (k : Nat) : List Nat := if k ≤ 16 then words16 l k else wordsN (words16 l 16) (k - 16)
theorem wordsTo_lo (l : List UInt8) (k : Nat) (h : k < 16) : wordsTo l (k + 1) = wordsTo l k ++ [wordB l k] := by
  unfold wordsTo
  rw [if_pos (by omega), if_pos (by omega)]
  rfl
theorem wordsTo_from (l : List UInt8) (k : Nat) : wordsTo l (16 + k) = wordsN (words16 l 16) k := by
  unfold wordsTo
  split
  · obtain rfl : k = 0 := by omega
    rfl
  · rw [Nat.add_sub_cancel_left]
theorem wordsTo_hi (l : List UInt8) (k : Nat) (h : 16 ≤ k) : wordsTo l (k + 1) = wordsTo l k ++ [nextW (wordsTo l k)] := by
  obtain ⟨j, rfl⟩ : ∃ j, k = 16 + j := ⟨k - 16, by omega⟩
  rw [Nat.add_assoc, wordsTo_from, wordsTo_from]
  rfl
theorem wordsTo_length (l : List UInt8) (k : Nat) : (wordsTo l k).length = k := by
  unfold wordsTo
  split
  · exact words16_length l k
  · rw [wordsN_length, words16_length]; omega
theorem wordsTo_lt (l : List UInt8) (k : Nat) : ∀ x ∈ wordsTo l k, x < 4294967296 := by
  unfold wordsTo
  split
  · exact words16_lt l k
  · exact wordsN_lt _ (words16_lt l 16) _
theorem wordsTo_all (l : List UInt8) : wordsTo l 64 = wordsOf l := wordsTo_from l 48
theorem i64_small (x : Nat) (h : x < 9223372036854775808) : IntKind.i64.wrap (x : Int) = (x : Int) := by rw [IntWalk.i64_in _ (by omega)]
theorem i64_sum {a b c : Nat} (h : a + b = c) (hc : c < 9223372036854775808) : IntKind.i64.wrap ((a : Int) + (b : Int)) = (c : Int) := by rw [IntWalk.i64_in _ (by omega)]; omega
theorem wordsTo_zero (l : List UInt8) : wordsTo l 0 = [] := rfl

theorem CellsFrom.at8 {w : World} {p : Nat} {xs : List Nat} (h : CellsFrom encN w p 0 xs) (i x : Nat) (hx : xs[i]? = some x) : w.cell? ⟨p, i, none⟩ = some (.int .i64 (x : Int)) := by
  obtain ⟨hi, rfl⟩ := List.getElem?_eq_some_iff.1 hx
  have := h i hi
  rw [Nat.zero_add] at this
  exact this
theorem i64_xor_of {a b c : Nat} (ha : a < 9223372036854775808) (hb : b < 9223372036854775808) (h : a ^^^ b = c) : bits .xor .i64 (a : Int) (b : Int) = (c : Int) := by rw [i64_xor_nat a b ha hb, h]
theorem i64_and_of {a b c : Nat} (ha : a < 9223372036854775808) (hb : b < 9223372036854775808) (h : a &&& b = c) : bits .and .i64 (a : Int) (b : Int) = (c : Int) := by rw [i64_and_nat a b ha hb, h]
theorem addSt_take (s v : St) (j : Nat) (hj : j < 8) : (addSt s v).toL.take (j + 1) = (addSt s v).toL.take j ++ [low32 (s.toL[j]'hj + v.toL[j]'hj)] :=
  match j, hj with
  | 0, _ => rfl
  | 1, _ => rfl
  | 2, _ => rfl
  | 3, _ => rfl
  | 4, _ => rfl
  | 5, _ => rfl
  | 6, _ => rfl
  | 7, _ => rfl
theorem toL_lt {s : St} (h : s.ok) : ∀ x ∈ s.toL, x < 4294967296 := by
  obtain ⟨h1, h2, h3, h4, h5, h6, h7, h8⟩ := h
  intro x hx
  simp only [St.toL, List.mem_cons, List.not_mem_nil, or_false] at hx
  rcases hx with rfl | rfl | rfl | rfl | rfl | rfl | rfl | rfl <;> assumption
theorem encN_one (x : Nat) : (encN x).oneCell' = true := rfl

set_option maxRecDepth 100000 in
set_option maxHeartbeats 2000000 in
theorem refBlock_any (s : St) (K : List Nat) (l : List UInt8) (ph ch pk ck pb ob cb : Nat) (w : World) (hs : s.ok) (hK : K.length = 64) (hKlt : ∀ x ∈ K, x < 4294967296) (hl : l.length = 64)
    (hh : CellsFrom encN w ph 0 s.toL) (hk : CellsFrom encN w pk 0 K) (hb : CellsFrom encB w pb ob l) (lh : ph < w.heap.size) (lk : pk < w.heap.size) (lb : pb < w.heap.size) :
    Calls Tryz.prog 41 #[.slice (some ⟨ph, 0, none⟩) 8 ch, .slice (some ⟨pk, 0, none⟩) 64 ck, .slice (some ⟨pb, ob, none⟩) 64 cb] w fun e w' => ∃ v, e = .returned v ∧ OwnL encN w' w.heap.size 3 v (blkS K s l).toL ∧ Below w.heap.size w w' := by
  have HH := Lib.hid hh; clear hh
  have HK := Lib.hid hk; clear hk
  have HB := Lib.hid hb; clear hb
  go_enter Tryz.func41, Tryz.ntmps41
  go_wp2
  go_loopw [7, 8] (fun v i wr => ∃ (k : Nat), k ≤ 64 ∧ i = .int .i64 k ∧ OwnL encN wr w.heap.size 3 v (wordsTo l k) ∧ Below w.heap.size w wr) (fun _ i _ => 64 - (intOf i).toNat)
  case atStart => exact ⟨0, Nat.zero_le _, rfl, OwnL.nil _ _ _ _, Below.refl _ _⟩
  case round =>
    obtain ⟨k, hk, rfl, hown, hbe⟩ := hrel
    have HBE := Lib.hid hbe; clear hbe
    have Hown := Lib.hid hown; clear hown
    by_cases hlt : k < 16
    · have kq : (k : Int) < 16 := by omega
      have k64 : (k : Int) < 64 := by omega
      have WL := Lib.hid (wordsTo_lo l k hlt)
      have WN := Lib.hid (wordsTo_length l k)
      have BK := HB.out.new lb HBE.out
      have c0 := BK (4 * k) (by omega)
      have c1 := BK (4 * k + 1) (by omega)
      have c2 := BK (4 * k + 2) (by omega)
      have c3 := BK (4 * k + 3) (by omega)
      unfold encB at c0 c1 c2 c3
      have WB := Lib.hid (wordB_at l k hl hlt)
      have b0 := (l[4 * k]'(by omega)).toNat_lt
      have b1 := (l[4 * k + 1]'(by omega)).toNat_lt
      have b2 := (l[4 * k + 2]'(by omega)).toNat_lt
      have b3 := (l[4 * k + 3]'(by omega)).toNat_lt
      generalize (l[4 * k]'(by omega)).toNat = x0 at *
      generalize (l[4 * k + 1]'(by omega)).toNat = x1 at *
      generalize (l[4 * k + 2]'(by omega)).toNat = x2 at *
      generalize (l[4 * k + 3]'(by omega)).toNat = x3 at *
      clear BK
      obtain ⟨q, hq⟩ : ∃ q, q = 4 * k := ⟨_, rfl⟩
      have i0 : IntKind.i64.wrap (4 * (k : Int)) = (q : Int) := by rw [IntWalk.i64_in _ (by omega)]; omega
      rw [← hq] at c0 c1 c2 c3
      obtain ⟨q1, hq1⟩ : ∃ q1, q1 = q + 1 := ⟨_, rfl⟩
      obtain ⟨q2, hq2⟩ : ∃ q1, q1 = q + 2 := ⟨_, rfl⟩
      obtain ⟨q3, hq3⟩ : ∃ q1, q1 = q + 3 := ⟨_, rfl⟩
      have i1 : IntKind.i64.wrap ((q : Int) + 1) = (q1 : Int) := by rw [IntWalk.i64_in _ (by omega)]; omega
      have i2 : IntKind.i64.wrap ((q : Int) + 2) = (q2 : Int) := by rw [IntWalk.i64_in _ (by omega)]; omega
      have i3 : IntKind.i64.wrap ((q : Int) + 3) = (q3 : Int) := by rw [IntWalk.i64_in _ (by omega)]; omega
      rw [← hq1] at c1
      rw [← hq2] at c2
      rw [← hq3] at c3
      have j0 : (q : Int) < 64 := by omega
      have j1 : (q1 : Int) < 64 := by omega
      have j2 : (q2 : Int) < 64 := by omega
      have j3 : (q3 : Int) < 64 := by omega
      have p0 : (0 : Int) ≤ (q : Int) := by omega
      have p1 : (0 : Int) ≤ (q1 : Int) := by omega
      have p2 : (0 : Int) ≤ (q2 : Int) := by omega
      have p3 : (0 : Int) ≤ (q3 : Int) := by omega
      obtain ⟨y0, hy0⟩ : ∃ y, y = x0 * 16777216 := ⟨_, rfl⟩
      obtain ⟨y1, hy1⟩ : ∃ y, y = x1 * 65536 := ⟨_, rfl⟩
      obtain ⟨y2, hy2⟩ : ∃ y, y = x2 * 256 := ⟨_, rfl⟩
      obtain ⟨z1, hz1⟩ : ∃ y, y = y0 + y1 := ⟨_, rfl⟩
      obtain ⟨z2, hz2⟩ : ∃ y, y = z1 + y2 := ⟨_, rfl⟩
      obtain ⟨z3, hz3⟩ : ∃ y, y = z2 + x3 := ⟨_, rfl⟩
      have v0 := i64_small x0 (by omega)
      have v1 := i64_small x1 (by omega)
      have v2 := i64_small x2 (by omega)
      have v3 := i64_small x3 (by omega)
      have s0 : IntKind.i64.wrap ((x0 : Int) * 16777216) = (y0 : Int) := by rw [IntWalk.i64_in _ (by omega)]; omega
      have s1 : IntKind.i64.wrap ((x1 : Int) * 65536) = (y1 : Int) := by rw [IntWalk.i64_in _ (by omega)]; omega
      have s2 : IntKind.i64.wrap ((x2 : Int) * 256) = (y2 : Int) := by rw [IntWalk.i64_in _ (by omega)]; omega
      have t1 := i64_sum hz1.symm (by omega)
      have t2 := i64_sum hz2.symm (by omega)
      have t3 := i64_sum hz3.symm (by omega)
      have WX : Hid (wordB l k = z3) := Lib.hid (by rw [WB.out]; omega)
      have k0 : (0 : Int) ≤ (k : Int) := by omega
      clear hq1 hq2 hq3 hy0 hy1 hy2 hz1 hz2 hz3 WB b0 b1 b2 b3
      clear hq
      go_wp2
      refine wp_region_quiet_tail 33 (by kernel_rfl) (by kernel_rfl) (fun _ _ _ h => h) (Or.inl ⟨by rfl, fun _ => rfl⟩) ?_ (v := u7)
      simp only [List.take_succ_cons, List.take_zero, List.drop_succ_cons, List.drop_zero]
      go_frame
      repeat (go_big_quiet_step (fail))
      refine wpQuiet_nil ?_
      rintro _ ⟨nq, rfl⟩
      have H5 := Lib.hid (show OwnL encN (wr.drewN nq) w.heap.size 3 u7 (wordsTo l k) from Hown.out)
      have B5 := Lib.hid (Below_drewN HBE.out nq)
      have hb0 := B5.out.size
      clear c0 c1 c2 c3 HBE Hown i0 i1 i2 i3 j0 j1 j2 j3 p0 p1 p2 p3 v0 v1 v2 v3 s0 s1 s2 t1 t2 t3
      generalize wr.drewN nq = w5 at *
      go_wp2_with (at_builtin; refine append_elem (enc := encN) (y := z3) rfl _ _ 22 3 (.int .i64 0) 8 (by rfl) Tryz.underlying22 info_int rfl w.heap.size _ _ rfl (by rfl) H5.out (by rfl) (by rw [WN.out]; omega) (by rw [WN.out]; unfold maxLen; omega) hb0 ?_; intro v' w6 hown6 hb6 hk6; have H6 := Lib.hid hown6; clear hown6 hk6)
      have B6 := Lib.hid (B5.out.trans hb6)
      clear hb6
      go_wp2
      go_roundw
      case rel => exact ⟨k + 1, by omega, by go_num, by rw [WL.out, WX.out]; exact H6.out, B6.out⟩
      case measure => simp [intOf]; omega
    · by_cases hlt2 : k < 64
      · have hwl := wordsTo_length l k
        have WL := Lib.hid (wordsTo_hi l k (by omega))
        have hWlt := wordsTo_lt l k
        obtain ⟨g, gc, hv, hg1, hg2, hgc⟩ := OwnL.block Hown.out (by intro e; rw [e] at hwl; simp at hwl; omega)
        rw [hwl] at hv
        subst hv
        have c16 := hgc (k - 16) (by omega)
        have c15 := hgc (k - 15) (by omega)
        have c7 := hgc (k - 7) (by omega)
        have c2 := hgc (k - 2) (by omega)
        rw [Nat.zero_add] at c16 c15 c7 c2
        have NX := nextW_at (wordsTo l k) k hwl (by omega)
        have d16 := hWlt _ (List.getElem_mem (show k - 16 < (wordsTo l k).length by omega))
        have d15 := hWlt _ (List.getElem_mem (show k - 15 < (wordsTo l k).length by omega))
        have d7 := hWlt _ (List.getElem_mem (show k - 7 < (wordsTo l k).length by omega))
        have d2 := hWlt _ (List.getElem_mem (show k - 2 < (wordsTo l k).length by omega))
        generalize (wordsTo l k)[k - 16]'(by omega) = z16 at *
        generalize (wordsTo l k)[k - 15]'(by omega) = x at *
        generalize (wordsTo l k)[k - 7]'(by omega) = z7 at *
        generalize (wordsTo l k)[k - 2]'(by omega) = y at *
        unfold encN at c16 c15 c7 c2
        have R7 := fun w' => Lib.hid (show Calls Tryz.prog 76 #[.int .i64 (x : Int), .int .i64 7] w' fun e w'' => e = .returned (.int .i64 (rotr x 7 : Nat)) ∧ ∃ m, w'' = w'.drewN m from refRot_any x 7 w' d15 (by decide) (by decide))
        have R18 := fun w' => Lib.hid (show Calls Tryz.prog 76 #[.int .i64 (x : Int), .int .i64 18] w' fun e w'' => e = .returned (.int .i64 (rotr x 18 : Nat)) ∧ ∃ m, w'' = w'.drewN m from refRot_any x 18 w' d15 (by decide) (by decide))
        have R17 := fun w' => Lib.hid (show Calls Tryz.prog 76 #[.int .i64 (y : Int), .int .i64 17] w' fun e w'' => e = .returned (.int .i64 (rotr y 17 : Nat)) ∧ ∃ m, w'' = w'.drewN m from refRot_any y 17 w' d2 (by decide) (by decide))
        have R19 := fun w' => Lib.hid (show Calls Tryz.prog 76 #[.int .i64 (y : Int), .int .i64 19] w' fun e w'' => e = .returned (.int .i64 (rotr y 19 : Nat)) ∧ ∃ m, w'' = w'.drewN m from refRot_any y 19 w' d2 (by decide) (by decide))
        have l7 := rotr_lt x 7 d15
        have l18 := rotr_lt x 18 d15
        have l17 := rotr_lt y 17 d2
        have l19 := rotr_lt y 19 d2
        unfold sg0 sg1 at NX
        generalize rotr x 7 = r7 at *
        generalize rotr x 18 = r18 at *
        generalize rotr y 17 = r17 at *
        generalize rotr y 19 = r19 at *
        obtain ⟨a1, ha1⟩ : ∃ a, r7 ^^^ r18 = a := ⟨_, rfl⟩
        obtain ⟨x8, hx8⟩ : ∃ a, x / 8 = a := ⟨_, rfl⟩
        obtain ⟨s0, hs0⟩ : ∃ a, a1 ^^^ x8 = a := ⟨_, rfl⟩
        obtain ⟨a2, ha2⟩ : ∃ a, r17 ^^^ r19 = a := ⟨_, rfl⟩
        obtain ⟨y10, hy10⟩ : ∃ a, y / 1024 = a := ⟨_, rfl⟩
        obtain ⟨s1, hs1⟩ : ∃ a, a2 ^^^ y10 = a := ⟨_, rfl⟩
        obtain ⟨m1, hm1⟩ : ∃ m, z16 + s0 = m := ⟨_, rfl⟩
        obtain ⟨m2, hm2⟩ : ∃ m, m1 + z7 = m := ⟨_, rfl⟩
        obtain ⟨m3, hm3⟩ : ∃ m, m2 + s1 = m := ⟨_, rfl⟩
        rw [ha1, hx8, hs0, ha2, hy10, hs1, hm1, hm2, hm3] at NX
        have la1 : a1 < 4294967296 := by rw [← ha1]; exact xor_lt32 l7 l18
        have la2 : a2 < 4294967296 := by rw [← ha2]; exact xor_lt32 l17 l19
        have lx8 : x8 < 4294967296 := by omega
        have ly10 : y10 < 4294967296 := by omega
        have ls0 : s0 < 4294967296 := by rw [← hs0]; exact xor_lt32 la1 lx8
        have ls1 : s1 < 4294967296 := by rw [← hs1]; exact xor_lt32 la2 ly10
        have X1 := i64_xor_of (by omega) (by omega) ha1
        have X2 := i64_xor_of (by omega) (by omega) hs0
        have X3 := i64_xor_of (by omega) (by omega) ha2
        have X4 := i64_xor_of (by omega) (by omega) hs1
        have A1 := i64_sum hm1 (by omega)
        have A2 := i64_sum hm2 (by omega)
        have A3 := i64_sum hm3 (by omega)
        have L1 := fun w' => Lib.hid (low_any (m3 : Int) (low32 m3) w' (by unfold low32; omega))
        have x8' : (x : Int) / 8 = (x8 : Int) := by omega
        have y10' : (y : Int) / 1024 = (y10 : Int) := by omega
        have NXH := Lib.hid NX
        clear NX ha1 hx8 hs0 ha2 hy10 hs1 hm1 hm2 hm3 la1 la2 lx8 ly10 ls0 ls1
        generalize low32 m3 = nx at *
        obtain ⟨n16, hn16⟩ : ∃ m, m = k - 16 := ⟨_, rfl⟩
        obtain ⟨n15, hn15⟩ : ∃ m, m = k - 15 := ⟨_, rfl⟩
        obtain ⟨n7, hn7⟩ : ∃ m, m = k - 7 := ⟨_, rfl⟩
        obtain ⟨n2, hn2⟩ : ∃ m, m = k - 2 := ⟨_, rfl⟩
        rw [← hn16] at c16
        rw [← hn15] at c15
        rw [← hn7] at c7
        rw [← hn2] at c2
        have w16 : IntKind.i64.wrap ((k : Int) - 16) = (n16 : Int) := by rw [IntWalk.i64_in _ (by omega)]; omega
        have w15 : IntKind.i64.wrap ((k : Int) - 15) = (n15 : Int) := by rw [IntWalk.i64_in _ (by omega)]; omega
        have w7 : IntKind.i64.wrap ((k : Int) - 7) = (n7 : Int) := by rw [IntWalk.i64_in _ (by omega)]; omega
        have w2 : IntKind.i64.wrap ((k : Int) - 2) = (n2 : Int) := by rw [IntWalk.i64_in _ (by omega)]; omega
        have q16 : (n16 : Int) < (k : Int) := by omega
        have q15 : (n15 : Int) < (k : Int) := by omega
        have q7 : (n7 : Int) < (k : Int) := by omega
        have q2 : (n2 : Int) < (k : Int) := by omega
        have o16 : (0 : Int) ≤ (n16 : Int) := by omega
        have o15 : (0 : Int) ≤ (n15 : Int) := by omega
        have o7 : (0 : Int) ≤ (n7 : Int) := by omega
        have o2 : (0 : Int) ≤ (n2 : Int) := by omega
        have k64 : (k : Int) < 64 := by omega
        have n16' : ¬ ((k : Int) < 16) := by omega
        have Hwl := Lib.hid hwl
        clear hn16 hn15 hn7 hn2 hWlt hwl hgc
        go_wp2
        refine wp_region_quiet_tail 30 (by kernel_rfl) (by kernel_rfl) (fun _ _ _ h => h) (Or.inl ⟨by rfl, fun _ => rfl⟩) ?_ (v := .slice (some ⟨g, 0, none⟩) k gc)
        simp only [List.take_succ_cons, List.take_zero, List.drop_succ_cons, List.drop_zero]
        go_frame
        repeat (go_big_quiet_step ((first | (go_at_call 76; (with_reducible exact Calls.quiet_of (R7 _).out)) | (go_at_call 76; (with_reducible exact Calls.quiet_of (R18 _).out)) | (go_at_call 76; (with_reducible exact Calls.quiet_of (R17 _).out)) | (go_at_call 76; (with_reducible exact Calls.quiet_of (R19 _).out)) | (go_at_call 75; (with_reducible exact quiet_left (L1 _).out)))))
        refine wpQuiet_nil ?_
        rintro _ ⟨nq, rfl⟩
        have H5 := Lib.hid (show OwnL encN (wr.drewN nq) w.heap.size 3 (.slice (some ⟨g, 0, none⟩) k gc) (wordsTo l k) from Hown.out)
        have B5 := Lib.hid (Below_drewN HBE.out nq)
        have hb0 := B5.out.size
        clear c16 c15 c7 c2 HBE Hown X1 X2 X3 X4 A1 A2 A3 L1 x8' y10' R7 R18 R17 R19 w16 w15 w7 w2 hg2
        generalize wr.drewN nq = w5 at *
        go_wp2_with (at_builtin; refine append_elem (enc := encN) (y := nx) rfl _ _ 22 3 (.int .i64 0) 8 (by rfl) Tryz.underlying22 info_int rfl w.heap.size _ _ rfl (by rfl) H5.out (by rfl) (by rw [Hwl.out]; omega) (by rw [Hwl.out]; unfold maxLen; omega) hb0 ?_; intro v' w6 hown6 hb6 hk6; have H6 := Lib.hid hown6; clear hown6 hk6)
        have B6 := Lib.hid (B5.out.trans hb6)
        clear hb6
        go_wp2
        go_roundw
        case rel => exact ⟨k + 1, hlt2, by go_num, by rw [WL.out, NXH.out]; exact H6.out, B6.out⟩
        case measure => simp [intOf]; exact less64 k hlt2
      · have hk64 : k = 64 := by omega
        rw [hk64, wordsTo_all] at Hown
        have nk : ¬ ((k : Int) < 64) := by omega
        obtain ⟨wb, wc, hv, hwb1, hwb2, hwc⟩ := OwnL.block Hown.out (by intro e; have := congrArg List.length e; rw [wordsOf_length] at this; cases this)
        rw [wordsOf_length] at hv
        subst hv
        clear Hown hlt hlt2 hk hk64
        have HHr := HH.out.new lh HBE.out
        have lhr : ph < wr.heap.size := Nat.lt_of_lt_of_le lh HBE.out.size
        have hb0 := HBE.out.size
        go_wp2_with (at_builtin; refine append_copy (enc := encN) rfl _ _ 22 3 (.int .i64 0) 8 (by rfl) Tryz.underlying22 info_int rfl wr.heap.size rfl s.toL encN_one ph 8 ch rfl rfl lhr HHr (by decide) (by decide) (Nat.le_refl _) ?_; intro v' w6 hown6 hb6; have H6 := Lib.hid (hown6.mono hb0); have B6 := Lib.hid (HBE.out.trans (hb6.mono hb0)); have hW := hwc.new hwb2 hb6; have hwb6 := Nat.lt_of_lt_of_le hwb2 hb6.size; clear hown6 hb6)
        obtain ⟨W, HWe⟩ : ∃ W, W = wordsOf l := ⟨_, rfl⟩
        have hWl := wordsOf_length l
        have hWlt := wordsOf_lt l
        have hBS : Hid ((blkS K s l).toL = (addSt s (rnds K W s 64)).toL) := Lib.hid (by rw [HWe]; rfl)
        rw [← HWe] at hW hWl hWlt
        have HW := Lib.hid hW
        have HWlt := Lib.hid hWlt
        have HWl := Lib.hid hWl
        have HKlt := Lib.hid hKlt
        have HKl := Lib.hid hK
        have HS := Lib.hid hs
        clear HHr hW hWlt hWl hKlt hK hs HWe HBE hwb1 hwb2 hwc lhr hb0
        have hs6 := B6.out.size
        go_wp2
        go_loopw [11, 12] (fun v i wr => ∃ (k : Nat), k ≤ 64 ∧ i = .int .i64 k ∧ OwnL encN wr w.heap.size 3 v (rnds K W s k).toL ∧ Below w6.heap.size w6 wr) (fun _ i _ => 64 - (intOf i).toNat)
        case atStart => exact ⟨0, Nat.zero_le _, rfl, H6.out, Below.refl _ _⟩
        case round =>
          obtain ⟨k, hk, rfl, hown, hbe⟩ := hrel
          have HBE := Lib.hid hbe; clear hbe
          obtain ⟨g, gc, hv, hg1, hg2, hgc⟩ := OwnL.block hown (by intro e; cases e)
          have hv : u11 = .slice (some ⟨g, 0, none⟩) 8 gc := hv
          subst hv
          have Hown := Lib.hid hown; clear hown
          have hok := rnds_ok (K := K) (W := W) HS.out k
          have HR := Lib.hid (show rnds K W s (k + 1) = rnd (rnds K W s k) (K.getD k 0) (W.getD k 0) from rfl)
          by_cases hlt : k < 64
          · have qk := (HK.out.new lk (B6.out.trans (HBE.out.mono hs6))) k (by rw [HKl.out]; exact hlt)
            have qw := (HW.out.new hwb6 HBE.out) k (by rw [HWl.out]; exact hlt)
            have kl := HKlt.out _ (List.getElem_mem (show k < K.length by rw [HKl.out]; exact hlt))
            have wl := HWlt.out _ (List.getElem_mem (show k < W.length by rw [HWl.out]; exact hlt))
            rw [show K.getD k 0 = K[k]'(by rw [HKl.out]; exact hlt) by simp [List.getD_eq_getElem?_getD, HKl.out, hlt], show W.getD k 0 = W[k]'(by rw [HWl.out]; exact hlt) by simp [List.getD_eq_getElem?_getD, HWl.out, hlt]] at HR
            generalize K[k]'(by rw [HKl.out]; exact hlt) = kk at *
            generalize W[k]'(by rw [HWl.out]; exact hlt) = ww at *
            obtain ⟨s', hs'⟩ : ∃ s', rnds K W s k = s' := ⟨_, rfl⟩
            rw [hs'] at hok HR hgc Hown
            clear hs'
            obtain ⟨la, lb, lc, ld, le, lf, lg, lh'⟩ := hok
            have hgc : CellsFrom encN wr g 0 [s'.a, s'.b, s'.c, s'.d, s'.e, s'.f, s'.g, s'.h] := hgc
            have n0 := hgc.at8 0 _ rfl
            have n1 := hgc.at8 1 _ rfl
            have n2 := hgc.at8 2 _ rfl
            have n3 := hgc.at8 3 _ rfl
            have n4 := hgc.at8 4 _ rfl
            have n5 := hgc.at8 5 _ rfl
            have n6 := hgc.at8 6 _ rfl
            have n7 := hgc.at8 7 _ rfl
            have R6 : ∀ w' : World, Hid (Calls Tryz.prog 76 #[.int .i64 (s'.e : Int), .int .i64 6] w' fun e w'' => e = .returned (.int .i64 (rotr s'.e 6 : Nat)) ∧ ∃ m, w'' = w'.drewN m) := fun w' => Lib.hid (refRot_any s'.e 6 w' le (by decide) (by decide))
            have R11 : ∀ w' : World, Hid (Calls Tryz.prog 76 #[.int .i64 (s'.e : Int), .int .i64 11] w' fun e w'' => e = .returned (.int .i64 (rotr s'.e 11 : Nat)) ∧ ∃ m, w'' = w'.drewN m) := fun w' => Lib.hid (refRot_any s'.e 11 w' le (by decide) (by decide))
            have R25 : ∀ w' : World, Hid (Calls Tryz.prog 76 #[.int .i64 (s'.e : Int), .int .i64 25] w' fun e w'' => e = .returned (.int .i64 (rotr s'.e 25 : Nat)) ∧ ∃ m, w'' = w'.drewN m) := fun w' => Lib.hid (refRot_any s'.e 25 w' le (by decide) (by decide))
            have R2 : ∀ w' : World, Hid (Calls Tryz.prog 76 #[.int .i64 (s'.a : Int), .int .i64 2] w' fun e w'' => e = .returned (.int .i64 (rotr s'.a 2 : Nat)) ∧ ∃ m, w'' = w'.drewN m) := fun w' => Lib.hid (refRot_any s'.a 2 w' la (by decide) (by decide))
            have R13 : ∀ w' : World, Hid (Calls Tryz.prog 76 #[.int .i64 (s'.a : Int), .int .i64 13] w' fun e w'' => e = .returned (.int .i64 (rotr s'.a 13 : Nat)) ∧ ∃ m, w'' = w'.drewN m) := fun w' => Lib.hid (refRot_any s'.a 13 w' la (by decide) (by decide))
            have R22 : ∀ w' : World, Hid (Calls Tryz.prog 76 #[.int .i64 (s'.a : Int), .int .i64 22] w' fun e w'' => e = .returned (.int .i64 (rotr s'.a 22 : Nat)) ∧ ∃ m, w'' = w'.drewN m) := fun w' => Lib.hid (refRot_any s'.a 22 w' la (by decide) (by decide))
            obtain ⟨x1, hx1⟩ : ∃ x, rotr s'.e 6 ^^^ rotr s'.e 11 = x := ⟨_, rfl⟩
            obtain ⟨S1, hS1⟩ : ∃ x, x1 ^^^ rotr s'.e 25 = x := ⟨_, rfl⟩
            obtain ⟨m1, hm1⟩ : ∃ x, s'.h + S1 = x := ⟨_, rfl⟩
            obtain ⟨an, han⟩ : ∃ x, s'.e &&& s'.f = x := ⟨_, rfl⟩
            obtain ⟨ne, hne⟩ : ∃ x, 4294967295 - s'.e = x := ⟨_, rfl⟩
            obtain ⟨a2, ha2⟩ : ∃ x, ne &&& s'.g = x := ⟨_, rfl⟩
            obtain ⟨c1, hc1⟩ : ∃ x, an ^^^ a2 = x := ⟨_, rfl⟩
            obtain ⟨m2, hm2⟩ : ∃ x, m1 + c1 = x := ⟨_, rfl⟩
            obtain ⟨m3, hm3⟩ : ∃ x, m2 + kk = x := ⟨_, rfl⟩
            obtain ⟨t, ht⟩ : ∃ x, m3 + ww = x := ⟨_, rfl⟩
            obtain ⟨y1, hy1⟩ : ∃ x, rotr s'.a 2 ^^^ rotr s'.a 13 = x := ⟨_, rfl⟩
            obtain ⟨S0, hS0⟩ : ∃ x, y1 ^^^ rotr s'.a 22 = x := ⟨_, rfl⟩
            obtain ⟨ab, hab⟩ : ∃ x, s'.a &&& s'.b = x := ⟨_, rfl⟩
            obtain ⟨ac, hac⟩ : ∃ x, s'.a &&& s'.c = x := ⟨_, rfl⟩
            obtain ⟨y2, hy2⟩ : ∃ x, ab ^^^ ac = x := ⟨_, rfl⟩
            obtain ⟨bc, hbc⟩ : ∃ x, s'.b &&& s'.c = x := ⟨_, rfl⟩
            obtain ⟨mj, hmj⟩ : ∃ x, y2 ^^^ bc = x := ⟨_, rfl⟩
            obtain ⟨u, hu⟩ : ∃ x, S0 + mj = x := ⟨_, rfl⟩
            obtain ⟨tu, htu⟩ : ∃ x, t + u = x := ⟨_, rfl⟩
            obtain ⟨dt, hdt⟩ : ∃ x, s'.d + t = x := ⟨_, rfl⟩
            have RO : Hid (rnd s' kk ww = ⟨low32 tu, s'.a, s'.b, s'.c, low32 dt, s'.e, s'.f, s'.g⟩) := Lib.hid (by
              unfold rnd tS uS Sg1 Sg0 chS majS
              rw [hx1, hS1, hm1, han, hne, ha2, hc1, hm2, hm3, ht, hy1, hS0, hab, hac, hy2, hbc, hmj, hu, htu, hdt])
            have HR2 := Lib.hid (HR.out.trans RO.out)
            have l6 := rotr_lt s'.e 6 le
            have l11 := rotr_lt s'.e 11 le
            have l25 := rotr_lt s'.e 25 le
            have l2 := rotr_lt s'.a 2 la
            have l13 := rotr_lt s'.a 13 la
            have l22 := rotr_lt s'.a 22 la
            have lx1 : x1 < 4294967296 := by rw [← hx1]; exact xor_lt32 l6 l11
            have lS1 : S1 < 4294967296 := by rw [← hS1]; exact xor_lt32 lx1 l25
            have lan : an < 4294967296 := by rw [← han]; exact and_lt32 lf
            have la2 : a2 < 4294967296 := by rw [← ha2]; exact and_lt32 lg
            have lc1 : c1 < 4294967296 := by rw [← hc1]; exact xor_lt32 lan la2
            have ly1 : y1 < 4294967296 := by rw [← hy1]; exact xor_lt32 l2 l13
            have lS0 : S0 < 4294967296 := by rw [← hS0]; exact xor_lt32 ly1 l22
            have lab : ab < 4294967296 := by rw [← hab]; exact and_lt32 lb
            have lac : ac < 4294967296 := by rw [← hac]; exact and_lt32 lc
            have ly2 : y2 < 4294967296 := by rw [← hy2]; exact xor_lt32 lab lac
            have lbc : bc < 4294967296 := by rw [← hbc]; exact and_lt32 lc
            have lmj : mj < 4294967296 := by rw [← hmj]; exact xor_lt32 ly2 lbc
            have X1 := i64_xor_of (by omega) (by omega) hx1
            have X2 := i64_xor_of (by omega) (by omega) hS1
            have A1 := i64_sum hm1 (by omega)
            have N1 := i64_and_of (by omega) (by omega) han
            have N2 : IntKind.i64.wrap (4294967295 - (s'.e : Int)) = (ne : Int) := by rw [IntWalk.i64_in _ (by omega)]; omega
            have N3 := i64_and_of (show ne < 9223372036854775808 by omega) (by omega) ha2
            have X3 := i64_xor_of (by omega) (by omega) hc1
            have A2 := i64_sum hm2 (by omega)
            have A3 := i64_sum hm3 (by omega)
            have A4 := i64_sum ht (by omega)
            have Y1 := i64_xor_of (by omega) (by omega) hy1
            have Y2 := i64_xor_of (by omega) (by omega) hS0
            have M1 := i64_and_of (by omega) (by omega) hab
            have M2 := i64_and_of (by omega) (by omega) hac
            have Y3 := i64_xor_of (by omega) (by omega) hy2
            have M3 := i64_and_of (by omega) (by omega) hbc
            have Y4 := i64_xor_of (by omega) (by omega) hmj
            have U := i64_sum hu (by omega)
            have TU := i64_sum htu (by omega)
            have DT := i64_sum hdt (by omega)
            have L1 := fun w' => Lib.hid (low_any (tu : Int) (low32 tu) w' (by unfold low32; omega))
            have L2 := fun w' => Lib.hid (low_any (dt : Int) (low32 dt) w' (by unfold low32; omega))
            clear RO HR hx1 hS1 hm1 han hne ha2 hc1 hm2 hm3 ht hy1 hS0 hab hac hy2 hbc hmj hu htu hdt lab lac lx1 lS1 lan la2 lc1 ly1 lS0 ly2 lbc lmj
            generalize low32 tu = na at *
            generalize low32 dt = nn at *
            generalize rotr s'.e 6 = r6 at *
            generalize rotr s'.e 11 = r11 at *
            generalize rotr s'.e 25 = r25 at *
            generalize rotr s'.a 2 = r2 at *
            generalize rotr s'.a 13 = r13 at *
            generalize rotr s'.a 22 = r22 at *
            generalize s'.a = sa at *
            generalize s'.b = sb at *
            generalize s'.c = sc at *
            generalize s'.d = sd at *
            generalize s'.e = se at *
            generalize s'.f = sf at *
            generalize s'.g = sg at *
            generalize s'.h = sh at *
            have kq : (k : Int) < 64 := by omega
            have k0 : (0 : Int) ≤ (k : Int) := by omega
            have G0 := Lib.hid hgc; clear hgc
            have qk' : wr.cell? ⟨pk, k, none⟩ = some (.int .i64 (kk : Int)) := by rw [Nat.zero_add] at qk; exact qk
            have qw' : wr.cell? ⟨wb, k, none⟩ = some (.int .i64 (ww : Int)) := by rw [Nat.zero_add] at qw; exact qw
            clear qk qw
            go_wp2
            go_quiet ((first | (go_at_call 76; (with_reducible exact Calls.quiet_of (R6 _).out)) | (go_at_call 76; (with_reducible exact Calls.quiet_of (R11 _).out)) | (go_at_call 76; (with_reducible exact Calls.quiet_of (R25 _).out))))
            have G1 := Lib.hid (show CellsFrom encN (wr.drewN nq) g 0 [sa, sb, sc, sd, se, sf, sg, sh] from G0.out)
            have B7 := Lib.hid (Below_drewN HBE.out nq)
            have g7 : g < (wr.drewN nq).heap.size := hg2
            clear X1 X2 A1 N1 N2 N3 X3 A2 A3 A4 qk' qw' R6 R11 R25 n0 n1 n2 n3 n4 n5 n6 n7 G0 HBE hg2 Hown
            generalize wr.drewN nq = w7 at *
            have n1 := G1.out.at8 1 _ rfl
            have n2 := G1.out.at8 2 _ rfl
            go_wp2
            go_quiet ((first | (go_at_call 76; (with_reducible exact Calls.quiet_of (R2 _).out)) | (go_at_call 76; (with_reducible exact Calls.quiet_of (R13 _).out)) | (go_at_call 76; (with_reducible exact Calls.quiet_of (R22 _).out))))
            have G2 := Lib.hid (show CellsFrom encN (w7.drewN nq) g 0 [sa, sb, sc, sd, se, sf, sg, sh] from G1.out)
            have B8 := Lib.hid (Below_drewN B7.out nq)
            have g8 : g < (w7.drewN nq).heap.size := g7
            clear Y1 Y2 M1 M2 Y3 M3 Y4 U R2 R13 R22 n1 n2 B7 G1 g7
            generalize w7.drewN nq = w8 at *
            have n1 := G2.out.at8 1 _ rfl
            have n2 := G2.out.at8 2 _ rfl
            have n3 := G2.out.at8 3 _ rfl
            have n5 := G2.out.at8 5 _ rfl
            have n6 := G2.out.at8 6 _ rfl
            go_wp2
            refine wp_region_quiet_tail 23 (by kernel_rfl) (by kernel_rfl) (fun _ _ _ h => h) (Or.inl ⟨by rfl, fun _ => rfl⟩) ?_ (v := .int .i64 (t : Int))
            simp only [List.take_succ_cons, List.take_zero, List.drop_succ_cons, List.drop_zero]
            go_frame
            repeat (go_big_quiet_step ((first | (go_at_call 75; (with_reducible exact quiet_left (L1 _).out)) | (go_at_call 75; (with_reducible exact quiet_left (L2 _).out)))))
            refine wpQuiet_nil ?_
            rintro _ ⟨nr, rfl⟩
            have B9 := Lib.hid (Below_drewN B8.out nr)
            clear n1 n2 n3 n5 n6 B8 G2 g8 TU DT L1 L2
            generalize w8.drewN nr = w9 at *
            go_wp2
            go_roundw
            case rel =>
              refine ⟨k + 1, hlt, by go_num, ?_, B9.out.alloc B9.out.size _⟩
              rw [HR2.out]
              exact World.ownsRow_lit (base := w.heap.size) (size := 1) w9 _ 8 (Nat.le_trans hs6 B9.out.size) (by decide) rfl
            case measure => simp [intOf]; exact less64 k hlt
          · have hk64 : k = 64 := by omega
            have nk : ¬ ((k : Int) < 64) := by omega
            obtain ⟨V, hV⟩ : ∃ V, rnds K W s k = V := ⟨_, rfl⟩
            have hBS2 : Hid ((blkS K s l).toL = (addSt s V).toL) := Lib.hid (by rw [hBS.out, ← hV, hk64])
            rw [hV] at hok hgc
            have B7 := Lib.hid (B6.out.trans (HBE.out.mono hs6))
            have hs7 := B7.out.size
            have lhr : ph < wr.heap.size := Nat.lt_of_lt_of_le lh hs7
            have HHr := Lib.hid (HH.out.new lh B7.out)
            have HG := Lib.hid hgc
            have HOK := Lib.hid hok
            clear Hown hgc hok hk hk64 hBS HR HBE HW HWlt HWl HKlt HKl hV hlt HK HB H6 B6 HH
            obtain ⟨w7, rfl⟩ : ∃ w7, w7 = wr := ⟨_, rfl⟩
            go_wp2
            go_loopw [17, 18] (fun v i w' => ∃ j : Nat, j ≤ 8 ∧ i = .int .i64 j ∧ OwnL encN w' w7.heap.size 3 v ((addSt s V).toL.take j) ∧ Below w7.heap.size w7 w') (fun _ i _ => 8 - (intOf i).toNat)
            case atStart => exact ⟨0, Nat.zero_le _, rfl, OwnL.nil _ _ _ _, Below.refl _ _⟩
            case round =>
              obtain ⟨j, hj, rfl, hown, hbe⟩ := hrel
              have HBE := Lib.hid hbe; clear hbe
              have Hown := Lib.hid hown; clear hown
              by_cases hlt : j < 8
              · have qx := (HHr.out.new lhr HBE.out) j hlt
                have qy := (HG.out.new hg2 HBE.out) j hlt
                have xl := toL_lt HS.out _ (List.getElem_mem (show j < s.toL.length from hlt))
                have yl := toL_lt HOK.out _ (List.getElem_mem (show j < V.toL.length from hlt))
                have AT := Lib.hid (addSt_take s V j hlt)
                have AL : Hid (((addSt s V).toL.take j).length = j) := Lib.hid (by rw [List.length_take]; show min j 8 = j; omega)
                rw [Nat.zero_add] at qx qy
                generalize s.toL[j]'hlt = x at *
                generalize V.toL[j]'hlt = y at *
                unfold encN at qx qy
                obtain ⟨z, hz⟩ : ∃ z, x + y = z := ⟨_, rfl⟩
                have A1 := i64_sum hz (by omega)
                have L1 := fun w' => Lib.hid (low_any (z : Int) (low32 z) w' (by unfold low32; omega))
                rw [hz] at AT
                have jq : (j : Int) < 8 := by omega
                have j0 : (0 : Int) ≤ (j : Int) := by omega
                clear hz
                generalize low32 z = o at *
                go_wp2
                refine wp_region_quiet_tail 10 (by kernel_rfl) (by kernel_rfl) (fun _ _ _ h => h) (Or.inl ⟨by rfl, fun _ => rfl⟩) ?_ (v := u17)
                simp only [List.take_succ_cons, List.take_zero, List.drop_succ_cons, List.drop_zero]
                go_frame
                repeat (go_big_quiet_step ((go_at_call 75; (with_reducible exact quiet_left (L1 _).out))))
                refine wpQuiet_nil ?_
                rintro _ ⟨nr, rfl⟩
                have H5 := Lib.hid (show OwnL encN (wr.drewN nr) w7.heap.size 3 u17 ((addSt s V).toL.take j) from Hown.out)
                have B5 := Lib.hid (Below_drewN HBE.out nr)
                have hb0 := B5.out.size
                clear HBE Hown qx qy A1 L1
                generalize wr.drewN nr = w5 at *
                go_wp2_with (at_builtin; refine append_elem (enc := encN) (y := o) rfl _ _ 22 3 (.int .i64 0) 8 (by rfl) Tryz.underlying22 info_int rfl w7.heap.size _ _ rfl (by rfl) H5.out (by rfl) (by rw [AL.out]; omega) (by rw [AL.out]; unfold maxLen; omega) hb0 ?_; intro v' w6' hown6 hb6 hk6; have H6 := Lib.hid hown6; clear hown6 hk6)
                have B6 := Lib.hid (B5.out.trans hb6)
                clear hb6
                go_wp2
                go_roundw
                case rel => exact ⟨j + 1, hlt, by go_num, by rw [AT.out]; exact H6.out, B6.out⟩
                case measure => simp [intOf]; omega
              · have e8 : j = 8 := by omega
                have nj : ¬ ((j : Int) < 8) := by omega
                have HO : Hid (OwnL encN wr w.heap.size 3 u17 (blkS K s l).toL) := Lib.hid (by
                  have h := Hown.out
                  rw [e8, List.take_of_length_le (Nat.le_refl 8)] at h
                  rw [hBS2.out]
                  exact h.mono hs7)
                have B8 := Lib.hid (B7.out.trans (HBE.out.mono hs7))
                clear Hown HBE e8
                go_wp2
                go_ret
                exact ⟨_, rfl, HO.out, B8.out⟩
end Go.Proofs.YtcbodpcekjngbaaGreat
/- A row of bytes of the call's own, with what is spare behind it, however it was made ([]byte(s), append): bytes appended. Of no program. -/
set_option linter.unusedVariables false
namespace Go.Proofs.YtcbodpcekjngbaaGreat
open Go.RowKit

def RowB (w : World) (base : Nat) (v : Value) (l : List UInt8) : Prop :=
  ∃ g cap, v = .slice (some ⟨g, 0, none⟩) l.length cap ∧ base ≤ g ∧ g < w.heap.size ∧ l.length ≤ cap ∧ CellsFrom encB w g 0 l ∧ ∀ j, l.length ≤ j → j < cap → (w.cell? ⟨g, j, none⟩).isSome = true ∧ w.frozen? ⟨g, j, none⟩ = false
theorem frozen_of_block {w w' : World} {g : Nat} (h : w'.heap[g]? = w.heap[g]?) (j : Nat) : w'.frozen? ⟨g, j, none⟩ = w.frozen? ⟨g, j, none⟩ := by
  unfold World.frozen?
  rw [h]
theorem RowB.new {w w' : World} {base B : Nat} {v : Value} {l : List UInt8} (h : RowB w base v l) (hb : Below B w w') (hB : w.heap.size ≤ B) : RowB w' base v l := by
  obtain ⟨g, cap, rfl, h1, h2, h5, h3, h4⟩ := h
  refine ⟨g, cap, rfl, h1, Nat.lt_of_lt_of_le h2 hb.size, h5, h3.new (by omega) hb, fun j hj hc => ?_⟩
  rw [World.cell?_of_block (w := w) (hb.block g (by omega)), frozen_of_block (hb.block g (by omega))]
  exact h4 j hj hc
theorem RowB.mono {w : World} {base base' : Nat} {v : Value} {l : List UInt8} (h : RowB w base v l) (hb : base' ≤ base) : RowB w base' v l := by
  obtain ⟨g, cap, rfl, h1, h2⟩ := h
  exact ⟨g, cap, rfl, Nat.le_trans hb h1, h2⟩
theorem RowB.of_own {w : World} {base : Nat} {e : TypeId} {v : Value} {l : List UInt8} (h : OwnL encB w base e v l) (hl : l ≠ []) : RowB w base v l := by
  obtain ⟨g0, c0, hv, _, _, hc⟩ := OwnL.block h hl
  rcases h.2 with ⟨rfl, hn⟩ | ⟨g, cap, cur, rfl, hb, hg, hle, _, hcs, _⟩
  · cases hv
  · injection hv with e1 e2 e3
    injection e1 with e1
    injection e1 with e4
    subst e4
    refine ⟨g, cap, rfl, hb, (Array.getElem?_eq_some_iff.1 hg).1, hle, hc, fun j _ hj => ⟨?_, frozen_of_row w g j _ _ hg⟩⟩
    rw [cell_of_row _ _ _ _ _ _ hg]
    rw [Array.getElem?_eq_getElem (by rw [hcs]; omega)]
    rfl

section
variable {P : Program}
theorem RowB.of_conv (w : World) (l : List UInt8) (src dst e : TypeId) (hs : P.underlying src = some .string) (hd : P.underlying dst = some (.slice e)) (he : P.underlying e = some (.int .u8)) :
    ∃ v w1, (convert src dst (.string ⟨l.toArray⟩)).run P w = .ok v w1 ∧ RowB w1 w.heap.size v l ∧ Below w.heap.size w w1 := by
  have h := run_bytes_of_string (P := P) w src dst e ⟨l.toArray⟩ hs hd he
  have hge : l.length ≤ grownCap w l.length 0 e := grownCap_ge w _ _ _
  obtain ⟨C, hC⟩ : ∃ C, C = bytesRow ⟨l.toArray⟩ (grownCap w l.length 0 e) := ⟨_, rfl⟩
  have hsz : C.size = grownCap w l.length 0 e := by
    rw [hC]
    unfold bytesRow
    show (Array.map _ l.toArray ++ Array.replicate (grownCap w l.length 0 e - l.length) _).size = _
    simp
    omega
  have hget : ∀ i (hi : i < l.length), C[i]? = some (encB l[i]) := by
    intro i hi
    rw [hC]
    unfold bytesRow
    show (Array.map _ l.toArray ++ Array.replicate (grownCap w l.length 0 e - l.length) _)[i]? = _
    rw [Array.getElem?_append_left (by simpa using hi)]
    simp [hi, encB]
  have h' : (convert src dst (.string ⟨l.toArray⟩)).run P w = .ok (.slice (some ⟨w.heap.size, 0, none⟩) l.length (grownCap w l.length 0 e)) (w.drew.alloc (.cells C e (C.size, C.size + 1))) := by
    rw [hC]
    exact h
  have hh : (w.drew.alloc (.cells C e (C.size, C.size + 1))).heap[w.heap.size]? = some (.cells C e (C.size, C.size + 1)) := by
    show (w.heap.push _)[w.heap.size]? = _
    simp
  refine ⟨_, _, h', ⟨w.heap.size, _, rfl, Nat.le_refl _, ?_, hge, ?_, ?_⟩, (Below_drew (Below.refl _ _)).alloc (Nat.le_refl _) _⟩
  · exact (Array.getElem?_eq_some_iff.1 hh).1
  · intro i hi
    simp only [World.cell?, hh, Nat.zero_add]
    simpa using hget i hi
  · intro j hj hc
    constructor
    · simp only [World.cell?, hh]
      rw [← hsz] at hc
      simp [hc]
    · simp only [World.frozen?, hh]
      simp
      omega

/-- A byte appended. -/
theorem append_rowB {w : World} {ops : Array Oper} {rest : List Oper} {o : Oper} {a : Act} {Q : Exit → Act → World → Prop} (hgd : o.guard = none) (s x : Operand) (t e : TypeId)
    (ho : o.op = .call { callee := .builtin .append, args := #[s, x], argTypes := #[t, t] }) (ht : P.underlying t = some (.slice e))
    (hinfo : (P.info? e).map (fun i => (i.zero, i.size, i.bytes)) = some (some (.int .u8 0), 1, 1))
    (base : Nat) (v : Value) (l : List UInt8) (b : Int) (c : UInt8) (hc : b = (c.toNat : Int)) (hs : a.eval s = v) (hrow : RowB w base v l) (hx : a.eval x = .slice (some ⟨w.heap.size, 0, none⟩) 1 1)
    (hlen : l.length < 70368744177664) (hbase : base ≤ w.heap.size)
    (h : ∀ v' w', RowB w' base v' (l ++ [c]) → Below base w w' → wpList P ops Q rest (a.put o.dst v') w') :
    wpList P ops Q (o :: rest) a (w.alloc (.cells #[.int .u8 b] e)) := by
  subst hc
  obtain ⟨i0, hi, hz0, hz1, hz2⟩ := info_parts hinfo
  have hn0 : Below w.heap.size w (w.alloc (.cells #[.int .u8 (c.toNat : Int)] e)) := (Below.refl _ _).alloc (Nat.le_refl _) _
  have hnew : (w.alloc (.cells #[.int .u8 (c.toNat : Int)] e)).heap[w.heap.size]? = some (.cells #[.int .u8 (c.toNat : Int)] e) := heap_alloc_new _ _
  have hb0 : Below base w (w.alloc (.cells #[.int .u8 (c.toNat : Int)] e)) := (Below.refl base w).alloc hbase _
  have hrow' := hrow.new hn0 (Nat.le_refl _)
  generalize hW : w.alloc (.cells #[.int .u8 (c.toNat : Int)] e) = W at *
  have hWs : w.heap.size ≤ W.heap.size := hn0.size
  obtain ⟨g, cap, rfl, h1, h2, h5, h3, h4⟩ := hrow'
  refine wpList_append_arg W hgd s x t ho e i0 (.int .u8 0) 1 1 ht hi hz0 hz1 hz2 rfl (by decide) g 0 l.length cap (l.map encB) hs (by simp) ?_ ⟨w.heap.size, 0, none⟩ 1 1 [encB c] hx rfl ?_ (by intro u hu; simp at hu; subst hu; rfl) ?_ (by unfold maxLen; omega) (by omega) ?_ ?_
  · intro j u hj
    rw [List.getElem?_map] at hj
    obtain ⟨y, hy, rfl⟩ := Option.map_eq_some_iff.1 hj
    obtain ⟨hjl, rfl⟩ := List.getElem?_eq_some_iff.1 hy
    exact h3 j hjl
  · intro j u hj
    match j, hj with
    | 0, hj =>
      simp at hj
      subst hj
      simp [Addr.add, World.cell?, hnew, encB]
  · intro hr j hj
    have hj0 : j = 0 := by simpa using hj
    subst hj0
    simp only [Nat.zero_add, Nat.mul_one, Nat.add_zero]
    exact h4 l.length (Nat.le_refl _) (by omega)
  · intro hr
    have hsome : ∀ j, j < [encB c].length → (W.cell? ⟨g, l.length + j, none⟩).isSome = true := by
      intro j hj
      have hj0 : j = 0 := by simpa using hj
      subst hj0
      exact (h4 l.length (Nat.le_refl _) (by omega)).1
    rw [show 0 + l.length * 1 = l.length by omega]
    refine h _ _ ⟨g, cap, by rw [List.length_append]; rfl, h1, ?_, by rw [List.length_append]; exact hr, ?_, ?_⟩ (hb0.setCell (p := ⟨g, l.length, none⟩) h1 _)
    · simpa [World.setCells, World.setCell] using h2
    · intro i hi
      rcases Nat.lt_or_ge i l.length with hlt | hge
      · rw [World.cell?_setCells_out g [encB c] l.length W _ (fun _ _ => Or.inl (by show 0 + i < l.length; omega)), h3 i hlt, List.getElem_append_left hlt]
      · have e1 : i = l.length := by rw [List.length_append] at hi; simp at hi; omega
        subst e1
        have := World.cell?_setCells_in g [encB c] l.length W hsome 0 (by simp)
        rw [Nat.add_zero] at this
        rw [Nat.zero_add, this, List.getElem_append_right (Nat.le_refl _)]
        simp
    · intro j hj hjc
      rw [List.length_append] at hj
      simp at hj
      rw [World.cell?_setCells_out g [encB c] l.length W _ (fun _ _ => Or.inr (by show l.length + 1 ≤ j; omega)), World.frozen?_setCells]
      exact h4 j (by omega) hjc
  · intro hg v' w' hown hgr
    refine h v' w' ?_ (hb0.trans ?_)
    · refine (RowB.of_own (e := e) ?_ (by simp)).mono (Nat.le_trans hbase hWs)
      unfold OwnL
      rw [List.map_append, List.length_append]
      exact hown
    · exact ((Below.refl W.heap.size W).grown hgr (Nat.le_refl _) (fun k hk => by cases hk)).mono (Nat.le_trans hbase hWs)
end
end Go.Proofs.YtcbodpcekjngbaaGreat
/- The walk of the document's SHA-256. -/
set_option linter.unusedVariables false
namespace Go.Proofs.YtcbodpcekjngbaaGreat
open Go.RowKit

/-! ### The padding, step by step -/
/-- A slice's length. -/
def lenOfV : Value → Nat
  | .slice _ n _ => n
  | _ => 0
theorem padZ_lt (n : Nat) : padZ n < 64 := Nat.mod_lt _ (by decide)
theorem padZ_at (n z : Nat) (h : z ≤ padZ n) : ((n + 1 + z) % 64 = 56) ↔ z = padZ n := by
  unfold padZ at *
  omega
/-- The text and z of the zeros behind its mark. -/
def padTo (l : List UInt8) (z : Nat) : List UInt8 := l ++ (128 :: List.replicate z 0)
theorem padTo_zero (l : List UInt8) : padTo l 0 = l ++ [128] := rfl
theorem padTo_next (l : List UInt8) (z : Nat) : padTo l (z + 1) = padTo l z ++ [0] := by
  unfold padTo
  rw [List.replicate_succ', List.append_assoc]
  rfl
theorem padTo_length (l : List UInt8) (z : Nat) : (padTo l z).length = l.length + 1 + z := by
  unfold padTo
  simp
  omega
/-- .. and k of the length's bytes. -/
def lenTo (l : List UInt8) (k : Nat) : List UInt8 := padTo l (padZ l.length) ++ (be8 (8 * l.length)).take k
theorem lenTo_zero (l : List UInt8) : lenTo l 0 = padTo l (padZ l.length) := by unfold lenTo; rw [List.take_zero, List.append_nil]
theorem be8_at (n k : Nat) (h : k < 8) : (be8 n)[k]? = some (beB n k) := by
  unfold be8
  simp [h]
theorem lenTo_next (l : List UInt8) (k : Nat) (h : k < 8) : lenTo l (k + 1) = lenTo l k ++ [beB (8 * l.length) k] := by
  unfold lenTo
  rw [List.take_add_one, be8_at _ _ h, List.append_assoc]
  rfl
theorem lenTo_length (l : List UInt8) (k : Nat) (h : k ≤ 8) : (lenTo l k).length = l.length + 1 + padZ l.length + k := by
  unfold lenTo
  rw [List.length_append, padTo_length, List.length_take, be8_length]
  omega
theorem lenTo_all (l : List UInt8) : lenTo l 8 = padS l := by
  unfold lenTo padTo padS
  rw [List.take_of_length_le (by rw [be8_length]; exact Nat.le_refl _), List.append_assoc]
  rfl
theorem ones_rem (m : Nat) : Int.tmod (m : Int) 64 = ((m % 64 : Nat) : Int) := rfl
theorem mod256 (m : Nat) : (((UInt8.ofNat (m % 256)).toNat : Nat) : Int) = (m : Int) % 256 := by
  simp only [UInt8.toNat_ofNat']
  omega

/-! ### Words to bytes -/
theorem bytesOfL_next (s : List Nat) (k : Nat) (h : k < s.length) : bytesOfL (s.take (k + 1)) = bytesOfL (s.take k) ++ wordBytes s[k] := by
  unfold bytesOfL
  rw [List.take_succ_eq_append_getElem h, List.flatMap_append]
  simp

section
variable {P : Program}
/-- Four bytes appended to bytes of the call's own. -/
theorem append_four {w : World} {ops : Array Oper} {rest : List Oper} {o : Oper} {a : Act} {Q : Exit → Act → World → Prop} (hgd : o.guard = none) (s x : Operand) (t e : TypeId)
    (ho : o.op = .call { callee := .builtin .append, args := #[s, x], argTypes := #[t, t] }) (ht : P.underlying t = some (.slice e))
    (hinfo : (P.info? e).map (fun i => (i.zero, i.size, i.bytes)) = some (some (.int .u8 0), 1, 1))
    (base : Nat) (v : Value) (l news : List UInt8) (b0 b1 b2 b3 : Int) (hc : cellsOf news = [.int .u8 b0, .int .u8 b1, .int .u8 b2, .int .u8 b3]) (hs : a.eval s = v) (hown : Own w base e v l) (hx : a.eval x = .slice (some ⟨w.heap.size, 0, none⟩) 4 4)
    (hlen : l.length < 70368744177664) (hbase : base ≤ w.heap.size)
    (h : ∀ v' w', Own w' base e v' (l ++ news) → Below base w w' → wpList P ops Q rest (a.put o.dst v') w') :
    wpList P ops Q (o :: rest) a (w.alloc (.cells #[.int .u8 b0, .int .u8 b1, .int .u8 b2, .int .u8 b3] e)) := by
  obtain ⟨i0, hi, hz0, hz1, hz2⟩ := info_parts hinfo
  have hnew : (w.alloc (.cells #[.int .u8 b0, .int .u8 b1, .int .u8 b2, .int .u8 b3] e)).heap[w.heap.size]? = some (.cells #[.int .u8 b0, .int .u8 b1, .int .u8 b2, .int .u8 b3] e) := heap_alloc_new _ _
  have hl4 : news.length = 4 := by have := congrArg List.length hc; rw [cellsOf_length] at this; exact this
  refine wpList_append_own _ hgd s x t ho base e i0 (.int .u8 0) 1 1 ht hi hz0 hz1 hz2 rfl (by decide) v l.length (cellsOf l) hs (World.ownsRow.alloc hown _) ⟨w.heap.size, 0, none⟩ 4 4 (cellsOf news) hx (by rw [cellsOf_length, hl4]) ?_ ?_ (by unfold maxLen; omega) (by omega) (by simp; omega) ?_
  · intro j u hj
    rw [hc] at hj
    have e1 : (⟨w.heap.size, 0, none⟩ : Addr).add j = ⟨w.heap.size, j, none⟩ := by unfold Addr.add; split <;> simp_all
    rw [e1, cell_of_row _ _ _ _ _ _ hnew]
    simpa using hj
  · intro u hu
    rw [hc] at hu
    simp only [List.mem_cons, List.not_mem_nil, or_false] at hu
    rcases hu with rfl | rfl | rfl | rfl <;> rfl
  · intro v' w' hown' hg _
    refine h v' w' ?_ (((Below.refl base w).alloc hbase _).grown hg (by simp; omega) (fun k hk => (hown.lt k hk).1))
    unfold Own
    rw [cellsOf_append, List.length_append, hl4]
    exact hown'
end
theorem CellsFrom.sub {α : Type} {enc : α → Value} {w : World} {p : Nat} {xs : List α} (h : CellsFrom enc w p 0 xs) (k n : Nat) : CellsFrom enc w p k ((xs.drop k).take n) := by
  intro i hi
  rw [List.length_take, List.length_drop] at hi
  have := h (k + i) (by omega)
  rw [Nat.zero_add] at this
  rw [this]
  simp
theorem i64_and255 (n : Nat) (h : n < 9223372036854775808) : bits .and .i64 (n : Int) 255 = ((n % 256 : Nat) : Int) := by
  have := i64_and_nat n 255 h (by decide)
  rw [show ((255 : Nat) : Int) = 255 from rfl] at this
  rw [this, show (255 : Nat) = 2 ^ 8 - 1 from rfl, and_low]

set_option maxRecDepth 100000 in
set_option maxHeartbeats 2000000 in
theorem refSum_any (l : List UInt8) (w : World) (hl : l.length ≤ 1000000) :
    Calls Tryz.prog 16 #[.string ⟨l.toArray⟩] w fun e w' => e = .returned (.string ⟨(shaS KL H0 l).toArray⟩) ∧ Below w.heap.size w w' := by
  have RK := fun w' => Lib.hid (rootsR_any 64 3 w' (.inr rfl) (Nat.le_refl _))
  have RH := fun w' => Lib.hid (rootsR_any 8 2 w' (.inl rfl) (by decide))
  go_enter Tryz.func16, Tryz.ntmps16
  go_wp2_with fail
  refine (RK _).out.mono ?_
  rintro e w1 ⟨kv, rfl, hkv, hb1⟩
  have hkv2 : OwnL encN w1 w.heap.size 3 kv KL := by rw [← KL_roots]; rw [List.take_of_length_le (by rw [PL_length]; exact Nat.le_refl _)] at hkv; exact hkv
  obtain ⟨pk, ck, rfl, hk1, hk2, hkc⟩ := OwnL.block hkv2 (by intro e; have := congrArg List.length e; rw [KL_length] at this; cases this)
  rw [KL_length]
  have B1 := Lib.hid hb1
  have HKC := Lib.hid hkc
  clear hkv hkv2 hb1 hkc RK
  go_wp2_with fail
  refine (RH _).out.mono ?_
  rintro e w2 ⟨hv, rfl, hhv, hb2⟩
  have hhv2 : OwnL encN w2 w1.heap.size 3 hv H0.toL := by rw [H0_toL, ← HL_roots]; exact hhv
  have B2 := Lib.hid (B1.out.trans (hb2.mono B1.out.size))
  have HKC2 := Lib.hid (HKC.out.new hk2 hb2)
  have hk3 : pk < w2.heap.size := Nat.lt_of_lt_of_le hk2 hb2.size
  have HH := Lib.hid (hhv2.mono B1.out.size)
  clear hhv hhv2 hb2 B1 HKC hk2 RH
  obtain ⟨bv, w3, hcv, hrow, hb3⟩ := RowB.of_conv (P := Tryz.prog) w2 l 9 73 5 Tryz.underlying9 Tryz.underlying73 Tryz.underlying5
  have HCV := Lib.hid hcv
  have B3 := Lib.hid hb3
  have HR := Lib.hid hrow
  have hs3 := hb3.size
  clear hcv hb3 hrow
  go_wp2
  rw [HCV.out]
  go_wp2_with (at_builtin; refine append_rowB rfl _ _ 73 5 (by rfl) Tryz.underlying73 info_u8 w2.heap.size _ _ _ 128 (by rfl) (by rfl) HR.out (by rfl) (by omega) hs3 ?_; intro v' w4 hrow4 hb4; have HR4 := Lib.hid hrow4; have B4 := Lib.hid ((B3.out).trans (hb4.mono (Nat.le_refl _))); clear hrow4 hb4)
  clear HCV B3 HR
  have hp64 := padZ_lt l.length
  go_wp2
  go_loopw [5] (fun v wr => ∃ z : Nat, z ≤ padZ l.length ∧ RowB wr w2.heap.size v (padTo l z) ∧ Below w2.heap.size w2 wr) (fun v _ => 2000000 - lenOfV v)
  case atStart => exact ⟨0, Nat.zero_le _, HR4.out, B4.out⟩
  case round =>
    obtain ⟨z, hz, hrow, hbe⟩ := hrel
    have hL := padTo_length l z
    have hat := padZ_at l.length z hz
    have HNX := Lib.hid (padTo_next l z)
    have HR := Lib.hid hrow
    have HBE := Lib.hid hbe
    obtain ⟨g, gc, rfl, hg1, hg2, _⟩ := hrow
    have hs5 := HBE.out.size
    obtain ⟨m, hm⟩ : ∃ m, m = (padTo l z).length := ⟨_, rfl⟩
    rw [← hm] at hL HR ⊢
    have T1 : Int.tmod (m : Int) 64 = ((m % 64 : Nat) : Int) := rfl
    rw [← hL] at hat
    obtain ⟨r, hr⟩ : ∃ r, r = m % 64 := ⟨_, rfl⟩
    rw [← hr] at T1 hat
    have Hm := Lib.hid hm
    have T2 : IntKind.i64.wrap (r : Int) = (r : Int) := i64_small r (by omega)
    have T3 : (m : Int) % 64 = (r : Int) := by omega
    have hmb : m < 2000000 := by omega
    have HL := Lib.hid hL
    clear hbe hm hg2 hg1 hL
    by_cases hne : r = 56
    · have q1 : ((r : Int) != 56) = false := by simp [hne]
      have HZ := Lib.hid (hat.1 hne)
      clear hat hne hr hz HNX HR4 B4
      rw [HZ.out] at HR
      rw [← lenTo_zero] at HR
      obtain ⟨L8, hL8⟩ : ∃ L8, L8 = 8 * l.length := ⟨_, rfl⟩
      have WL8 : IntKind.i64.wrap (8 * (l.length : Int)) = (L8 : Int) := by rw [IntWalk.i64_in _ (by omega)]; omega
      have HL8 := Lib.hid hL8
      have L8b : L8 ≤ 8000000 := by omega
      clear hL8
      go_wp2
      clear T1 T2 T3 q1
      go_loopw [5, 6] (fun v i wr => ∃ (k : Nat) (ii : Int), k ≤ 8 ∧ ii = 7 - (k : Int) ∧ i = .int .i64 ii ∧ RowB wr w2.heap.size v (lenTo l k) ∧ Below w2.heap.size w2 wr) (fun _ i _ => (intOf i + 1).toNat)
      case atStart => exact ⟨0, 7, Nat.zero_le _, rfl, rfl, HR.out, HBE.out⟩
      case round =>
        obtain ⟨k, ii, hk, hii, rfl, hrow, hbe⟩ := hrel
        have HR := Lib.hid hrow
        have HBE := Lib.hid hbe
        have hs6 := HBE.out.size
        clear hrow hbe
        by_cases hlt : k < 8
        · obtain ⟨e, he⟩ : ∃ e, e = 8 * (7 - k) := ⟨_, rfl⟩
          have NX := Lib.hid (lenTo_next l k hlt)
          have LN := Lib.hid (lenTo_length l k hk)
          have i0 : (0 : Int) ≤ ii := by omega
          have WE : IntKind.i64.wrap (8 * ii) = (e : Int) := by rw [IntWalk.i64_in _ (by omega)]; omega
          have heb : e < 64 := by omega
          obtain ⟨c, hc⟩ : ∃ c, c = beB L8 k := ⟨_, rfl⟩
          rw [← HL8.out, ← hc] at NX
          have hbyte : ((L8 / 2 ^ e : Nat) : Int) % 256 = (c.toNat : Int) := by
            rw [hc]
            unfold beB
            rw [mod256, he]
          have hdiv : (L8 : Int) / 2 ^ e = ((L8 / 2 ^ e : Nat) : Int) := by rw [Int.natCast_ediv, Int.natCast_pow]; rfl
          have hql : L8 / 2 ^ e ≤ L8 := Nat.div_le_self _ _
          have i1 : ii ≤ 7 := by omega
          have MX : ii - 1 = 7 - ((k + 1 : Nat) : Int) := by omega
          have HMX := Lib.hid MX
          generalize L8 / 2 ^ e = q at *
          clear he hc hii MX
          go_wp2_with (at_builtin; refine append_rowB rfl _ _ 73 5 (by rfl) Tryz.underlying73 info_u8 w2.heap.size _ _ _ c (by rfl) (by rfl) HR.out (by rfl) (by rw [LN.out]; omega) hs6 ?_; intro v'' w6 hrow6 hb6; have HR6 := Lib.hid hrow6; have B6 := Lib.hid (HBE.out.trans hb6); clear hrow6 hb6)
          go_wp2
          go_roundw
          case rel => exact ⟨k + 1, ii - 1, hlt, HMX.out, rfl, by rw [NX.out]; exact HR6.out, B6.out⟩
          case measure => simp [intOf]; omega
        · have e8 : k = 8 := by omega
          have hneg : ¬ (0 ≤ ii) := by omega
          rw [e8, lenTo_all] at HR
          clear hii e8 hlt hk WL8 HL8 L8b hmb HZ HL Hm
          obtain ⟨nb, hnb⟩ : ∃ nb, nb = (padS l).length / 64 := ⟨_, rfl⟩
          have hpl := padS_length l
          have hP : (padS l).length = 64 * nb := by split at hpl <;> omega
          have hnbb : nb ≤ 20000 := by split at hpl <;> omega
          have hSH : Hid (shaS KL H0 l = bytesOfL (absorb KL H0 (padS l) nb).toL) := Lib.hid (by rw [hnb]; rfl)
          obtain ⟨P, hPd⟩ : ∃ P, P = padS l := ⟨_, rfl⟩
          rw [← hPd] at HR hP hSH
          obtain ⟨bg, bc, hbv, hbg1, hbg2, hbc, hbcells, _⟩ := HR.out
          rw [hP] at hbv hbc
          subst hbv
          have HBC := Lib.hid hbcells
          have HBE2 := Lib.hid (B2.out.trans (HBE.out.mono B2.out.size))
          have HKC3 := Lib.hid (HKC2.out.new hk3 HBE.out)
          have hk5 : pk < wr.heap.size := Nat.lt_of_lt_of_le hk3 HBE.out.size
          have HH3 := Lib.hid (HH.out.kept (Kept.new HBE.out (fun _ => False)) (fun _ _ h => h))
          have hbw := HBE2.out.size
          have HP := Lib.hid hP
          clear hnb hpl hP hPd hbcells HR HBE HKC2 HH hk3
          go_wp2
          obtain ⟨w5, rfl⟩ : ∃ w5, w5 = wr := ⟨_, rfl⟩
          go_loopw [4, 7] (fun v i wr => ∃ (j : Nat), j ≤ nb ∧ i = .int .i64 ((64 * j : Nat) : Int) ∧ OwnL encN wr w.heap.size 3 v (absorb KL H0 P j).toL ∧ Below w5.heap.size w5 wr) (fun _ i _ => 64 * nb - (intOf i).toNat)
          case atStart => exact ⟨0, Nat.zero_le _, rfl, HH3.out, Below.refl _ _⟩
          case round =>
            obtain ⟨j, hj, rfl, hown, hbe⟩ := hrel
            have HBE := Lib.hid hbe
            have HO := Lib.hid hown
            clear hbe hown
            by_cases hlt : j < nb
            · obtain ⟨at', hat⟩ : ∃ a, a = 64 * j := ⟨_, rfl⟩
              rw [← hat]
              obtain ⟨nx, hnx⟩ : ∃ a, a = 64 * nb := ⟨_, rfl⟩
              rw [← hnx] at hbc ⊢
              have a0 : (0 : Int) ≤ (at' : Int) := by omega
              have a1 : (at' : Int) < (nx : Int) := by omega
              obtain ⟨ae, hae⟩ : ∃ a, a = at' + 64 := ⟨_, rfl⟩
              have WA : IntKind.i64.wrap ((at' : Int) + 64) = (ae : Int) := by rw [IntWalk.i64_in _ (by omega)]; omega
              have a2 : (ae : Int) ≤ (bc : Int) := by omega
              have a3 : (at' : Int) ≤ (ae : Int) := by omega
              have a4 : ae - at' = 64 := by omega
              have a5 : ¬ (bc = at') := by omega
              have AN : (ae : Int) = ((64 * (j + 1) : Nat) : Int) := by omega
              have HAN := Lib.hid AN
              have ML : nx - ae < nx - at' := by omega
              have HML := Lib.hid ML
              have HAT := Lib.hid hat
              obtain ⟨hg, hc', hhv, hhg1, hhg2, hhc⟩ := OwnL.block HO.out (by intro e; cases e)
              have hhv : u4 = .slice (some ⟨hg, 0, none⟩) 8 hc' := hhv
              subst hhv
              have RB := Lib.hid (refBlock_any (absorb KL H0 P j) KL ((P.drop at').take 64) hg hc' pk ck bg at' (bc - at') wr (absorb_ok H0_ok P j) KL_length KL_lt (by rw [List.length_take, List.length_drop, HP.out]; omega) hhc (HKC3.out.new hk5 HBE.out) ?_ hhg2 (Nat.lt_of_lt_of_le hk5 HBE.out.size) (Nat.lt_of_lt_of_le hbg2 HBE.out.size))
              case refine_1 => exact (HBC.out.new hbg2 HBE.out).sub at' 64
              have AB := Lib.hid (show absorb KL H0 P (j + 1) = blkS KL (absorb KL H0 P j) ((P.drop at').take 64) by rw [hat]; rfl)
              have hws : w.heap.size ≤ wr.heap.size := Nat.le_trans hbw HBE.out.size
              clear hat hnx hae AN ML hj hhc hhg1 hhg2 HO
              go_wp2_with fail
              refine RB.out.mono ?_
              rintro e w6 ⟨v6, rfl, ho6, hb6⟩
              have HO6 := Lib.hid (ho6.mono hws)
              have B6 := Lib.hid (HBE.out.trans (hb6.mono HBE.out.size))
              clear ho6 hb6 RB
              go_wp2
              go_roundw
              case rel => exact ⟨j + 1, hlt, by rw [HAN.out], by rw [AB.out]; exact HO6.out, B6.out⟩
              case measure => simp [intOf]; exact HML.out
            · have e1 : j = nb := by omega
              rw [e1] at HO
              have nlt : ¬ (((64 * j : Nat) : Int) < ((64 * nb : Nat) : Int)) := by omega
              obtain ⟨nx, hnx⟩ : ∃ a, a = 64 * nb := ⟨_, rfl⟩
              obtain ⟨at', hat⟩ : ∃ a, a = 64 * j := ⟨_, rfl⟩
              rw [← hnx] at nlt hbc ⊢
              rw [← hat] at nlt ⊢
              obtain ⟨hg, hc', hhv, hhg1, hhg2, hhc⟩ := OwnL.block HO.out (by intro e; cases e)
              have hhv : u4 = .slice (some ⟨hg, 0, none⟩) 8 hc' := hhv
              subst hhv
              have hok := absorb_ok H0_ok (K := KL) P nb
              obtain ⟨S, hS⟩ : ∃ S, S = absorb KL H0 P nb := ⟨_, rfl⟩
              rw [← hS] at hok hhc hSH
              have HOK := Lib.hid hok
              have HC := Lib.hid hhc
              have B7 := Lib.hid (HBE2.out.trans (HBE.out.mono hbw))
              have hs7 := B7.out.size
              clear hnx hat hS e1 hj hlt hok hhc HO HBE HBE2 hbw HKC3 HH3 HBC HP hk5 hbg1 hbg2 hhg1
              go_wp2
              obtain ⟨w7, rfl⟩ : ∃ w7, w7 = wr := ⟨_, rfl⟩
              go_loopw [8, 9] (fun v i wr => ∃ (k : Nat), k ≤ 8 ∧ i = .int .i64 k ∧ Own wr w7.heap.size 5 v (bytesOfL (S.toL.take k)) ∧ Below w7.heap.size w7 wr) (fun _ i _ => 8 - (intOf i).toNat)
              case atStart => exact ⟨0, Nat.zero_le _, rfl, Own.nil _ _ _, Below.refl _ _⟩
              case round =>
                obtain ⟨k, hk, rfl, hown, hbe⟩ := hrel
                have HBE := Lib.hid hbe
                have HO := Lib.hid hown
                clear hbe hown
                by_cases hlt : k < 8
                · have qx := (HC.out.new hhg2 HBE.out) k hlt
                  rw [Nat.zero_add] at qx
                  have BN := Lib.hid (bytesOfL_next S.toL k hlt)
                  have xl := toL_lt HOK.out _ (List.getElem_mem (show k < S.toL.length from hlt))
                  have BL : Hid ((bytesOfL (S.toL.take k)).length = 4 * k) := Lib.hid (by rw [bytesOfL_length, List.length_take]; show 4 * min k 8 = _; omega)
                  generalize S.toL[k]'hlt = x at *
                  unfold encN at qx
                  obtain ⟨x1, hx1⟩ : ∃ y, y = x / 16777216 := ⟨_, rfl⟩
                  obtain ⟨x2, hx2⟩ : ∃ y, y = x / 65536 := ⟨_, rfl⟩
                  obtain ⟨x3, hx3⟩ : ∃ y, y = x / 256 := ⟨_, rfl⟩
                  have D1 : (x : Int) / 16777216 = (x1 : Int) := by omega
                  have D2 : (x : Int) / 65536 = (x2 : Int) := by omega
                  have D3 : (x : Int) / 256 = (x3 : Int) := by omega
                  have N2 := i64_and255 x2 (by omega)
                  have N3 := i64_and255 x3 (by omega)
                  have N4 := i64_and255 x (by omega)
                  obtain ⟨y2, hy2⟩ : ∃ y, y = x2 % 256 := ⟨_, rfl⟩
                  obtain ⟨y3, hy3⟩ : ∃ y, y = x3 % 256 := ⟨_, rfl⟩
                  obtain ⟨y4, hy4⟩ : ∃ y, y = x % 256 := ⟨_, rfl⟩
                  rw [← hy2] at N2
                  rw [← hy3] at N3
                  rw [← hy4] at N4
                  have V1 : IntKind.u8.wrap (x1 : Int) = (x1 : Int) := by rw [IntKind.wrap_u8]; omega
                  have V2 : IntKind.u8.wrap (y2 : Int) = (y2 : Int) := by rw [IntKind.wrap_u8]; omega
                  have V3 : IntKind.u8.wrap (y3 : Int) = (y3 : Int) := by rw [IntKind.wrap_u8]; omega
                  have V4 : IntKind.u8.wrap (y4 : Int) = (y4 : Int) := by rw [IntKind.wrap_u8]; omega
                  have W1 : (x1 : Int) % 256 = (x1 : Int) := by omega
                  have W2 : (y2 : Int) % 256 = (y2 : Int) := by omega
                  have W3 : (y3 : Int) % 256 = (y3 : Int) := by omega
                  have W4 : (y4 : Int) % 256 = (y4 : Int) := by omega
                  have CB : Hid (cellsOf (wordBytes x) = [.int .u8 (x1 : Int), .int .u8 (y2 : Int), .int .u8 (y3 : Int), .int .u8 (y4 : Int)]) := Lib.hid (by
                    unfold cellsOf wordBytes
                    simp only [List.map_cons, List.map_nil, mod256]
                    rw [hy2, hx2, hy3, hx3, hy4]
                    simp only [List.cons.injEq, Value.int.injEq, true_and, and_true]
                    omega)
                  have kq : (k : Int) < 8 := by omega
                  have k0 : (0 : Int) ≤ (k : Int) := by omega
                  clear hx1 hx2 hx3 hy2 hy3 hy4
                  go_wp2
                  refine wp_region_quiet_tail 26 (by kernel_rfl) (by kernel_rfl) (fun _ _ _ h => h) (Or.inl ⟨by rfl, fun _ => rfl⟩) ?_ (v := u8)
                  simp only [List.take_succ_cons, List.take_zero, List.drop_succ_cons, List.drop_zero]
                  go_frame
                  repeat (go_big_quiet_step (fail))
                  refine wpQuiet_nil ?_
                  rintro _ ⟨nr, rfl⟩
                  have H5 := Lib.hid (show Own (wr.drewN nr) w7.heap.size 5 u8 (bytesOfL (S.toL.take k)) from HO.out)
                  have B5 := Lib.hid (Below_drewN HBE.out nr)
                  have hb0 := B5.out.size
                  clear HBE HO qx D1 D2 D3 N2 N3 N4 V1 V2 V3 V4 W1 W2 W3 W4
                  generalize wr.drewN nr = w8 at *
                  go_wp2_with (at_builtin; refine append_four rfl _ _ 73 5 (by rfl) Tryz.underlying73 info_u8 w7.heap.size _ _ (wordBytes x) _ _ _ _ CB.out (by rfl) H5.out (by rfl) (by rw [BL.out]; omega) hb0 ?_; intro v'' w9 hown9 hb9; have H9 := Lib.hid hown9; have B9 := Lib.hid (B5.out.trans hb9); clear hown9 hb9)
                  go_wp2
                  go_roundw
                  case rel => exact ⟨k + 1, hlt, by go_num, by rw [BN.out]; exact H9.out, B9.out⟩
                  case measure => simp [intOf]; omega
                · have e8 : k = 8 := by omega
                  have nk : ¬ ((k : Int) < 8) := by omega
                  rw [e8, List.take_of_length_le (show S.toL.length ≤ 8 from Nat.le_refl 8)] at HO
                  have hcs := own_string (P := Tryz.prog) wr w7.heap.size 73 9 5 _ _ Tryz.underlying73 Tryz.underlying5 Tryz.underlying9 HO.out
                  have HCS := Lib.hid hcs
                  have BF := Lib.hid (B7.out.trans (HBE.out.mono hs7))
                  clear hcs e8 HBE HO
                  go_wp2
                  rw [HCS.out]
                  go_wp2
                  go_ret
                  exact ⟨by rw [hSH.out]; rfl, BF.out⟩
    · have q1 : ((r : Int) != 56) = true := by simp; omega
      have hz2 : z < padZ l.length := by
        rcases Nat.lt_or_ge z (padZ l.length) with h | h
        · exact h
        · exact absurd (hat.2 (by omega)) hne
      clear hat hr hne
      go_wp2_with (at_builtin; refine append_rowB rfl _ _ 73 5 (by rfl) Tryz.underlying73 info_u8 w2.heap.size _ _ _ 0 (by rfl) (by rfl) HR.out (by rfl) (by rw [← Hm.out]; omega) hs5 ?_; intro v' w6 hrow6 hb6; have HR6 := Lib.hid hrow6; have B6 := Lib.hid (HBE.out.trans hb6); clear hrow6 hb6)
      go_wp2
      go_roundw
      case rel => exact ⟨z + 1, hz2, by rw [HNX.out]; exact HR6.out, B6.out⟩
      case measure =>
        obtain ⟨g6, c6, rfl, _⟩ := HR6.out
        simp only [lenOfV]
        rw [List.length_append, ← Hm.out]
        simp
        omega
end Go.Proofs.YtcbodpcekjngbaaGreat
/- The walk of the law MarksReals: both real books answer alike. -/
set_option linter.unusedVariables false
namespace Go.Proofs.YtcbodpcekjngbaaGreat
open Go.RowKit

/-- The document's own real book in block q. -/
def RefRealAt (w : World) (q : Nat) : Prop := w.heap[q]? = some (.cells #[.bool true, .slice none 0 0] 37 (0, 0))
theorem RefRealAt.c0 {w : World} {q : Nat} (h : RefRealAt w q) : w.cell? ⟨q, 0, none⟩ = some (.bool true) := by rw [cell_of_row _ _ _ _ _ _ h]; rfl
theorem RefRealAt.new {w w' : World} {q : Nat} (h : RefRealAt w q) (hb : Below w.heap.size w w') : RefRealAt w' q := (hb.block q (Array.getElem?_eq_some_iff.1 h).1).trans h
structure Reals (p kb q : Nat) (w : World) : Prop where
  a : RealAt w p kb
  b : RefRealAt w q
theorem Reals.new {p kb q : Nat} {w w' : World} (h : Reals p kb q w) (hb : Below w.heap.size w w') : Reals p kb q w' := ⟨h.a.new hb, h.b.new hb⟩

theorem refMark_real (w : World) (q : Nat) (s : Txt) (h : RefRealAt w q) (hl : s.length ≤ 1000000) :
    Calls Tryz.prog 43 #[.pointer (some ⟨q, 0, none⟩), .string ⟨s.toArray⟩] w fun e w' => e = .returned (.string ⟨(realM s).toArray⟩) ∧ Below w.heap.size w w' := by
  have C1 := Lib.hid (refSum_any s w hl)
  have c0 := h.c0
  unfold realM
  generalize shaS KL H0 s = r at *
  clear h
  go_enter Tryz.func43, Tryz.ntmps43
  go_wp2_with fail
  refine C1.out.mono ?_
  rintro e w1 ⟨rfl, hb1⟩
  have HB := Lib.hid hb1; clear hb1
  go_wp2_with fail
  go_ret
  exact ⟨rfl, HB.out⟩

theorem refReal_new (w : World) : RefRealAt (w.alloc (.cells #[.bool true, .slice none 0 0] 37)) w.heap.size := heap_alloc_new _ _

end Go.Proofs.YtcbodpcekjngbaaGreat
