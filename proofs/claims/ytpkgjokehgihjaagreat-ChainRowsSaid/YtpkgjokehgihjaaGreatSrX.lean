/- Several texts in one: ThruMath, ThruW, SrcW, SrcAddW, ThroughW, ComposeW, FoldW. -/
import Derived.Test.YtpkgjokehgihjaaGreatMkX
import Derived.Test.YtpkgjokehgihjaaGreatTyX
import Derived.Test.YtpkgjokehgihjaaGreatDelX
import Derived.Test.YtpkgjokehgihjaaGreatGen
import Derived.Test.YtpkgjokehgihjaaGreatRollMath
import Derived.Test.YtpkgjokehgihjaaGreatSignMath
import Derived.Test.YtpkgjokehgihjaaGreatTabX
import Derived.Test.YtpkgjokehgihjaaGreatBookW
import Derived.Test.YtpkgjokehgihjaaGreatFrame
import Derived.Test.YtpkgjokehgihjaaGreatPtX
import Derived.Test.YtpkgjokehgihjaaGreatRollX
import Derived.Test.YtpkgjokehgihjaaGreatNewTabW
import Derived.Test.YtpkgjokehgihjaaGreatOwnL
import Derived.Test.YtpkgjokehgihjaaGreatProg
import Derived.Test.YtpkgjokehgihjaaGreatRdX
import Derived.Test.YtpkgjokehgihjaaGreatRowKeep
import Derived.Test.YtpkgjokehgihjaaGreatRows
import Derived.Test.YtpkgjokehgihjaaGreatSameW
import Derived.Test.YtpkgjokehgihjaaGreatShelf
import Derived.Test.YtpkgjokehgihjaaGreatSigAt
import Derived.Test.YtpkgjokehgihjaaGreatSigOfW
import Derived.Test.YtpkgjokehgihjaaGreatSortX
import Derived.Test.YtpkgjokehgihjaaGreatSortEW
import Derived.Test.YtpkgjokehgihjaaGreatSortFW
import Derived.Test.YtpkgjokehgihjaaGreatStepW
import Derived.BigQuiet
import Derived.BigRegion
import Derived.Deep.CutBlock
import Derived.Deep.DeepCutAuto
import Derived.Deep.LoopGhost
import Derived.Deep.QuietTactic
import Derived.Deep.RegionHeld3
import Derived.Deep.RegionLaw
import Derived.IntWalk
import Derived.Laws.BitsAllLaws
import Derived.Laws.MakeOwn
import Derived.Laws.Rows
import Derived.Laws.Tables
import Derived.Lib.Hide
import Derived.Outline
import Derived.Sort.Walk0
import Derived.StillTailTactics
import Derived.WalkKit
import Derived.WalkLawsBesides
import Derived.WalkSpells
import Derived.Test.YtpkgjokehgihjaaGreatInfos
import Derived.Test.YtpkgjokehgihjaaGreatCmpW
import Derived.Test.YtpkgjokehgihjaaGreatWkX
import Derived.Test.YtpkgjokehgihjaaGreatMarkMath
import Derived.Test.YtpkgjokehgihjaaGreatOdX
import Derived.Test.YtpkgjokehgihjaaGreatRightDW
/- Plain mathematics of a text by the steps that make it: where they begin, which one has a byte; how far copies reach. Of no program. -/
set_option linter.unusedVariables false
namespace Go.Proofs.YtpkgjokehgihjaaGreat
open Go.RowKit

/-! ### How far copies reach -/
def reachS (l : List DSt) : Int := l.foldl (fun m x => max m (x.pos + x.len)) 0
theorem reach_take (l : List DSt) (k : Nat) (hk : k < l.length) : reachS (l.take (k + 1)) = max (reachS (l.take k)) (l[k].pos + l[k].len) := by
  unfold reachS
  rw [List.take_succ_eq_append_getElem hk, List.foldl_append]; rfl
theorem st_reach {x : DSt} (h : stS x = true) : 0 ≤ x.pos + x.len ∧ x.pos + x.len ≤ 524288 := by
  unfold stS at h
  split at h
  · have := of_decide_eq_true h; omega
  · have := of_decide_eq_true h; omega
theorem reach_bound (l : List DSt) (h : ∀ x ∈ l, stS x = true) : ∀ k, k ≤ l.length → 0 ≤ reachS (l.take k) ∧ reachS (l.take k) ≤ 524288 := by
  intro k
  induction k with
  | zero => intro _; unfold reachS; simp
  | succ k ih =>
    intro hk
    have h1 := ih (by omega)
    have h2 := st_reach (h l[k] (List.getElem_mem _))
    rw [reach_take l k (by omega)]
    omega
theorem inR_one {x : DSt} (h : stS x = true) (n : Nat) : InR (bytesO x) n ↔ x.pos + x.len ≤ n := by
  unfold stS at h
  unfold bytesO
  split
  · rename_i c
    rw [if_pos c] at h
    have := of_decide_eq_true h
    exact ⟨fun _ => by omega, fun _ => InR.told _ _⟩
  · rename_i c
    rw [if_neg c] at h
    have := of_decide_eq_true h
    have e1 : x.pos = ((x.pos.toNat : Nat) : Int) := by omega
    constructor
    · intro hr
      have hm : (.inr (x.pos + ((x.len.toNat - 1 : Nat) : Int)) : BT) ∈ placesC x.pos x.len.toNat := by
        unfold placesC
        exact List.mem_map.2 ⟨x.len.toNat - 1, List.mem_range.2 (by omega), rfl⟩
      have := hr _ hm _ rfl
      omega
    · intro hr
      rw [e1]
      exact InR.places _ _ _ (by omega)
theorem reach_iff (n : Nat) (l : List DSt) (h : ∀ x ∈ l, stS x = true) : reachS l ≤ n ↔ InR (bytesA l) n := by
  have key : ∀ (l : List DSt) (m : Int), (∀ x ∈ l, stS x = true) → (l.foldl (fun m x => max m (x.pos + x.len)) m ≤ n ↔ m ≤ n ∧ InR (bytesA l) n) := by
    intro l
    induction l with
    | nil => intro m _; exact ⟨fun h => ⟨h, InR.nil n⟩, fun h => h.1⟩
    | cons x l ih =>
      intro m h
      rw [List.foldl_cons, ih _ (fun y hy => h y (by simp [hy])), bytes_cons, InR.append, inR_one (h x (by simp))]
      constructor
      · rintro ⟨h1, h2⟩; exact ⟨by omega, by omega, h2⟩
      · rintro ⟨h1, h2, h3⟩; exact ⟨by omega, h3⟩
  unfold reachS
  rw [key l 0 h]
  exact ⟨fun h => h.2, fun h => ⟨by omega, h⟩⟩

/-! ### Where steps begin -/
def lenB (l : List DSt) : Nat := (bytesA l).length
theorem lenB_next (l : List DSt) (k : Nat) (hk : k < l.length) : lenB (l.take (k + 1)) = lenB (l.take k) + (bytesO l[k]).length := by
  unfold lenB
  rw [List.take_succ_eq_append_getElem hk, bytes_append, bytes_one, List.length_append]
theorem bytesO_pos {x : DSt} (h : stS x = true) : 0 < (bytesO x).length := by
  have h1 := mk_bytes h
  have h2 := mk_bound' h
  omega
def begS (l : List DSt) : List Nat := (List.range l.length).map fun k => lenB (l.take k)
theorem beg_len (l : List DSt) : (begS l).length = l.length := by unfold begS; simp
theorem beg_get (l : List DSt) (k : Nat) (h : k < (begS l).length) : (begS l)[k] = lenB (l.take k) := by revert h; unfold begS; intro h; simp
theorem lenB_mono (l : List DSt) {i k : Nat} (h : i ≤ k) : lenB (l.take i) ≤ lenB (l.take k) := by
  unfold lenB
  rw [show l.take k = l.take i ++ (l.take k).drop i by
    conv => lhs; rw [← List.take_append_drop i (l.take k)]
    rw [List.take_take, Nat.min_eq_left h]]
  rw [bytes_append, List.length_append]; omega
theorem lenB_lt (l : List DSt) (hs : ∀ x ∈ l, stS x = true) {i k : Nat} (h : i < k) (hk : k ≤ l.length) : lenB (l.take i) < lenB (l.take k) := by
  have h1 := lenB_next l i (by omega)
  have h2 := bytesO_pos (hs l[i] (List.getElem_mem _))
  have h3 := lenB_mono l (show i + 1 ≤ k from h)
  omega
/-- Which step has a byte. -/
theorem step_of (l : List DSt) (at' : Nat) (h : at' < lenB l) : ∃ i, i < l.length ∧ lenB (l.take i) ≤ at' ∧ at' < lenB (l.take (i + 1)) := by
  have key : ∀ k, k ≤ l.length → at' < lenB (l.take k) → ∃ i, i < k ∧ lenB (l.take i) ≤ at' ∧ at' < lenB (l.take (i + 1)) := by
    intro k
    induction k with
    | zero => intro _ h; unfold lenB at h; simp [bytes_nil] at h
    | succ k ih =>
      intro hk h
      by_cases c : at' < lenB (l.take k)
      · obtain ⟨i, h1, h2⟩ := ih (by omega) c
        exact ⟨i, by omega, h2⟩
      · exact ⟨k, by omega, by omega, h⟩
  exact key l.length (Nat.le_refl _) (by rw [List.take_length]; exact h)
theorem beg_sorted (l : List DSt) : ((begS l).map (fun n : Nat => (n : Int))).Pairwise (· ≤ ·) := by
  rw [List.pairwise_iff_getElem]
  intro i j hi hj hij
  rw [List.getElem_map, List.getElem_map, beg_get, beg_get]
  have := lenB_mono l (show i ≤ j by omega)
  omega
/-- What the search tells of a place. -/
theorem beg_search (l : List DSt) (hs : ∀ x ∈ l, stS x = true) (at' i : Nat) (hi : i < l.length) (h1 : lenB (l.take i) ≤ at') (h2 : at' < lenB (l.take (i + 1))) :
    (lenB (l.take i) = at' ∧ ((begS l).map (fun n : Nat => (n : Int))).countP (· < (at' : Int)) = i ∧ ((begS l).map (fun n : Nat => (n : Int))).contains (at' : Int) = true) ∨
    (lenB (l.take i) < at' ∧ ((begS l).map (fun n : Nat => (n : Int))).countP (· < (at' : Int)) = i + 1 ∧ ((begS l).map (fun n : Nat => (n : Int))).contains (at' : Int) = false) := by
  obtain ⟨Z, hZ⟩ : ∃ Z : List Int, Z = (begS l).map (fun n : Nat => (n : Int)) := ⟨_, rfl⟩
  have hlen : Z.length = l.length := by rw [hZ, List.length_map, beg_len]
  have hget : ∀ k (hk : k < Z.length), Z[k] = (lenB (l.take k) : Int) := by
    intro k hk
    subst hZ
    rw [List.getElem_map, beg_get]
  have cnt : ∀ (A : List Int) (p : Int → Bool), (∀ a ∈ A, p a = true) → A.countP p = A.length := fun A p h => by rw [List.countP_eq_length]; exact h
  have cn0 : ∀ (A : List Int) (p : Int → Bool), (∀ a ∈ A, p a = false) → A.countP p = 0 := fun A p h => by rw [List.countP_eq_zero]; intro a ha; rw [h a ha]; simp
  have hsplit : Z = Z.take i ++ Z[i]'(by omega) :: Z.drop (i + 1) := by
    conv => lhs; rw [← List.take_append_drop i Z]
    rw [List.drop_eq_getElem_cons (by omega : i < Z.length)]
  have hlo : ∀ a ∈ Z.take i, a < (at' : Int) := by
    intro a ha
    obtain ⟨k, hk, rfl⟩ := List.getElem_of_mem ha
    rw [List.length_take] at hk
    rw [List.getElem_take, hget]
    have := lenB_lt l hs (show k < i by omega) (by omega)
    omega
  have hhi : ∀ a ∈ Z.drop (i + 1), (at' : Int) < a := by
    intro a ha
    obtain ⟨k, hk, rfl⟩ := List.getElem_of_mem ha
    rw [List.length_drop] at hk
    rw [List.getElem_drop, hget]
    have := lenB_mono l (show i + 1 ≤ i + 1 + k by omega)
    omega
  have hmid := hget i (by omega)
  rw [← hZ]
  by_cases c : lenB (l.take i) = at'
  · left
    refine ⟨c, ?_, ?_⟩
    · rw [hsplit, List.countP_append, List.countP_cons, cnt _ _ (fun a ha => decide_eq_true (hlo a ha)), cn0 _ _ (fun a ha => decide_eq_false (by have := hhi a ha; omega)), hmid, c, List.length_take]
      simp; omega
    · rw [List.contains_iff_mem, hsplit, hmid, c]; simp
  · right
    refine ⟨by omega, ?_, ?_⟩
    · rw [hsplit, List.countP_append, List.countP_cons, cnt _ _ (fun a ha => decide_eq_true (hlo a ha)), cn0 _ _ (fun a ha => decide_eq_false (by have := hhi a ha; omega)), hmid, List.length_take]
      rw [if_pos (decide_eq_true (by omega))]
      omega
    · rw [← Bool.not_eq_true, List.contains_iff_mem, hsplit, List.mem_append, List.mem_cons]
      rintro (h | h | h)
      · have := hlo _ h; omega
      · omega
      · have := hhi _ h; omega
/-- A piece of a text by its steps: one step's part, then the rest. -/
theorem piece_step (l : List DSt) (hs : ∀ x ∈ l, stS x = true) (at' n i : Nat) (hi : i < l.length) (h1 : lenB (l.take i) ≤ at') (h2 : at' < lenB (l.take (i + 1))) (k : Nat) (hk : k = min n (lenB (l.take (i + 1)) - at')) :
    ((bytesA l).drop at').take n = ((bytesO l[i]).drop (at' - lenB (l.take i))).take k ++ ((bytesA l).drop (at' + k)).take (n - k) := by
  have h3 := lenB_next l i hi
  have e : bytesA l = bytesA (l.take i) ++ (bytesO l[i] ++ bytesA (l.drop (i + 1))) := by
    conv => lhs; rw [← List.take_append_drop i l, List.drop_eq_getElem_cons hi]
    rw [bytes_append, bytes_cons]
  have hl : (bytesA (l.take i)).length = lenB (l.take i) := rfl
  have hkn : k ≤ n := by omega
  have hA : ((bytesA l).drop at').take k = ((bytesO l[i]).drop (at' - lenB (l.take i))).take k := by
    rw [e, List.drop_append, List.drop_of_length_le (by omega), List.nil_append, hl, List.drop_append_of_le_length (by omega), List.take_append_of_le_length (by rw [List.length_drop]; omega)]
  rw [← hA, ← List.drop_drop]
  generalize (bytesA l).drop at' = u
  have : n = k + (n - k) := by omega
  conv => lhs; rw [this, List.take_add]
end Go.Proofs.YtpkgjokehgihjaaGreat
/- Walks of chain's reach, sourceOf, cut. -/
set_option linter.unusedVariables false
namespace Go.Proofs.YtpkgjokehgihjaaGreat
open Go.RowKit

set_option maxRecDepth 100000 in
set_option maxHeartbeats 1000000 in
theorem reach_any (N : Nat → Prop) (v : Value) (l : List DSt) (w : World) (h : RowS N w v l) (hs : ∀ x ∈ l, stS x = true) (hl : l.length ≤ 1000000) :
    Calls Tryz.prog 28 #[v] w fun e w' => e = .returned (.int .i64 (reachS l)) ∧ Below w.heap.size w w' := by
  have HR := Lib.hid h
  have HS := Lib.hid hs
  obtain ⟨a, c, rfl⟩ := h.slice
  have HBD := Lib.hid (reach_bound l hs)
  clear h hs
  go_enter Tryz.func28, Tryz.ntmps28
  go_wp2_with fail
  go_loopw [3, 8] (fun m i wr => ∃ k : Nat, k ≤ l.length ∧ i = .int .i64 k ∧ m = .int .i64 (reachS (l.take k)) ∧ Below w.heap.size w wr) (fun _ i _ => l.length - (intOf i).toNat)
  case atStart => exact ⟨0, by omega, rfl, rfl, Below.refl _ _⟩
  case round =>
    obtain ⟨k, hk, rfl, rfl, hbel⟩ := hrel
    have HB := Lib.hid hbel; clear hbel
    by_cases hlt : k < l.length
    · obtain ⟨g, o, c', hv, _, hst⟩ := HR.out.at hlt
      injection hv with hv1 hv2 hv3
      subst hv1
      clear hv2 hv3
      obtain ⟨e0, e1, e2⟩ := hst.below HB.out hst.lt
      have hx := st_reach (HS.out l[k] (List.getElem_mem _))
      have hxs := HS.out l[k] (List.getElem_mem _)
      have NX := Lib.hid (reach_take l k hlt)
      have hb1 := HBD.out k hk
      generalize l[k] = x at *
      obtain ⟨p, m, t⟩ := x
      dsimp only at e0 e1 e2 hx NX
      generalize reachS (l.take k) = r at *
      obtain ⟨r2, hr2⟩ : ∃ r2, r2 = reachS (l.take (k + 1)) := ⟨_, rfl⟩
      rw [← hr2] at NX
      have HR2 := Lib.hid hr2
      clear hr2 hst
      have hbb := below_self_alloc wr (stO ⟨p, m, t⟩)
      have HB2 := Lib.hid (HB.out.trans (hbb.mono HB.out.size))
      have hpm : -9223372036854775808 ≤ p ∧ p ≤ 9223372036854775807 ∧ -9223372036854775808 ≤ m ∧ m ≤ 9223372036854775807 := by
        have := stok_of hxs
        exact ⟨this.p1, this.p2, this.l1, this.l2⟩
      clear hbb hxs
      have i0 : (0 : Int) ≤ (k : Int) := by omega
      have i1 : (k : Int) < (l.length : Int) := by omega
      go_wp2_with fail
      go_roundw
      case rel => exact ⟨k + 1, by omega, by go_num, by rw [← HR2.out, NX.out], HB2.out⟩
      case measure => simp [intOf]; omega
    · obtain rfl : k = l.length := by omega
      have i1 : ¬ (l.length : Int) < (l.length : Int) := by omega
      rw [List.take_length]
      go_wp2_with fail
      go_ret
      exact ⟨rfl, HB.out⟩

set_option maxRecDepth 100000 in
set_option maxHeartbeats 1000000 in
theorem cut_any2 (x : DSt) (f n : Nat) (w : World) (hs : stS x = true) (hf : f < (bytesO x).length) (hn : 0 < n) (hn2 : n ≤ 1000000) :
    Calls Tryz.prog 69 #[stV x, .int .i64 f, .int .i64 n] w fun e w' => e = .returned (stV (cutO x f (min n ((bytesO x).length - f)))) ∧ Below w.heap.size w w' := by
  have hmk := mk_bytes hs
  have hb := mk_bound' hs
  have ho := stok_of hs
  have hk0 : 0 < min n ((bytesO x).length - f) := by omega
  have hk1 : f + min n ((bytesO x).length - f) ≤ (bytesO x).length := by omega
  have HMN := Lib.hid (show min (n : Int) (mkS x - (f : Int)) = ((min n ((bytesO x).length - f) : Nat) : Int) by omega)
  have MK := fun w' => Lib.hid (cmakes_any x w' ho.t (by
    unfold stS at hs
    split at hs
    · have := of_decide_eq_true hs; omega
    · have := of_decide_eq_true hs; omega) (by
    unfold stS at hs
    split at hs
    · have := of_decide_eq_true hs; omega
    · have := of_decide_eq_true hs; omega))
  generalize min n ((bytesO x).length - f) = k at *
  have HCU := Lib.hid (show cutO x f k = if x.txt ≠ [] then ⟨0, 0, (x.txt.take (f + k)).drop f⟩ else ⟨x.pos + f, k, []⟩ from rfl)
  have hfm : (f : Int) ≤ mkS x := by omega
  have hkm : (f : Int) + (k : Int) ≤ mkS x := by omega
  have hmx : mkS x = (x.txt.length : Int) + x.len := rfl
  generalize cutO x f k = res at *
  generalize (bytesO x).length = bl at *
  obtain ⟨p, m, t⟩ := x
  have ba := below_self_alloc w (stO ⟨p, m, t⟩)
  have bb := below_self_alloc (w.alloc (stO ⟨p, m, t⟩)) (stO ⟨0, 0, []⟩)
  have hsw : (w.alloc (stO ⟨p, m, t⟩)).heap.size = w.heap.size + 1 := by simp
  have HB := Lib.hid (ba.trans (bb.mono ba.size))
  obtain ⟨c0, c1, c2⟩ := (stO_at w ⟨p, m, t⟩).new bb
  have G0 := heap_alloc_new (w.alloc (stO ⟨p, m, t⟩)) (stO ⟨0, 0, []⟩)
  rw [hsw] at G0
  have HG := Lib.hid G0
  dsimp only at c0 c1 c2 HCU hmx
  rw [Nat.zero_add] at c1 c2
  have hpp := ho.p1
  have hpq := ho.p2
  dsimp only at hpp hpq
  clear ba bb hsw G0 ho
  generalize hy : mkS ⟨p, m, t⟩ = y at *
  clear hy
  unfold stS at hs
  dsimp only at hs
  by_cases ht : t = []
  · subst ht
    rw [if_neg (by simp)] at hs
    have hs1 := of_decide_eq_true hs
    rw [if_neg (by simp)] at HCU
    obtain rfl : y = m := by rw [hmx]; simp
    clear hmx
    have c2' : ((w.alloc (stO ⟨p, y, []⟩)).alloc (stO ⟨0, 0, []⟩)).cell? ⟨w.heap.size, 2, none⟩ = some (.string ⟨#[]⟩) := c2
    clear c2 hs
    go_enter Tryz.func69, Tryz.ntmps69
    go_wp2_with fail
    generalize (w.alloc (.cells #[.int .i64 p, .int .i64 y, .string ⟨#[]⟩] 42)).alloc (.cells #[.int .i64 0, .int .i64 0, .string ⟨#[]⟩] 42) = w1 at *
    refine (MK _).out.mono ?_
    rintro e w2 ⟨rfl, hb2⟩
    have hG2 := old_of hb2 HG.out
    have HB2 := Lib.hid (HB.out.trans (hb2.mono HB.out.size))
    have d0 := (hb2.cell (World.block_lt_of_cell? _ _ c0)).trans c0
    have d2 := (hb2.cell (World.block_lt_of_cell? _ _ c2')).trans c2'
    obtain ⟨⟨S0, S0f⟩, ⟨S1, S1f⟩, ⟨S2, S2f⟩, s4', s5'⟩ := three_store hG2 (.int .i64 (p + f)) (.int .i64 k) (.string ⟨#[]⟩)
    have S4 := Lib.hid s4'
    have HF := Lib.hid (HB2.out.trans (s5'.below HB2.out.size (fun k e => by omega)))
    clear s4' s5' hG2 hb2 c0 c1 c2' MK
    go_upto_region 2 with fail
    rw [HMN.out]
    go_wp2_with fail
    refine bodyPost_ret (v := stV ⟨p + f, k, []⟩) (results_cell_row Tryz.results69 _ _ (w.heap.size + 1) _ _ _ _ rfl S4.out Tryz.underlying42 rfl st_info) rfl ?_
    rw [HCU.out]
    exact ⟨rfl, HF.out⟩
  · rw [if_pos ht] at hs
    have hs1 := of_decide_eq_true hs
    obtain ⟨ht1, rfl, rfl⟩ := hs1
    obtain rfl : y = (t.length : Int) := by rw [hmx]; omega
    clear hmx
    rw [if_pos ht] at HCU
    have hne : t.isEmpty = false := by cases t <;> simp_all
    have HE := Lib.hid (slice_toArray t f (f + k))
    have TL := Lib.hid (show (⟨t.toArray⟩ : ByteArray).size = t.length from rfl)
    clear hs ht
    go_enter Tryz.func69, Tryz.ntmps69
    go_wp2_with fail
    generalize (w.alloc (.cells #[.int .i64 0, .int .i64 0, .string ⟨t.toArray⟩] 42)).alloc (.cells #[.int .i64 0, .int .i64 0, .string ⟨#[]⟩] 42) = w1 at *
    refine (MK _).out.mono ?_
    rintro e w2 ⟨rfl, hb2⟩
    have hG2 := old_of hb2 HG.out
    have HB2 := Lib.hid (HB.out.trans (hb2.mono HB.out.size))
    have d0 := (hb2.cell (World.block_lt_of_cell? _ _ c0)).trans c0
    have d2 := (hb2.cell (World.block_lt_of_cell? _ _ c2)).trans c2
    generalize (t.take (f + k)).drop f = u at *
    obtain ⟨⟨S0, S0f⟩, ⟨S1, S1f⟩, ⟨S2, S2f⟩, s4', s5'⟩ := three_store hG2 (.int .i64 0) (.int .i64 0) (.string ⟨u.toArray⟩)
    have S4 := Lib.hid s4'
    have HF := Lib.hid (HB2.out.trans (s5'.below HB2.out.size (fun k e => by omega)))
    clear s4' s5' hG2 hb2 c0 c1 c2 MK
    go_upto_region 2 with fail
    rw [HMN.out]
    have j1 : (f : Int) ≤ (f : Int) + (k : Int) := by omega
    have j2 : (f : Int) + (k : Int) ≤ (t.length : Int) := by omega
    go_wp2_with (first | (rw [HE.out]) | fail)
    refine bodyPost_ret (v := stV ⟨0, 0, u⟩) (results_cell_row Tryz.results69 _ _ (w.heap.size + 1) _ _ _ _ rfl S4.out Tryz.underlying42 rfl st_info) rfl ?_
    rw [HCU.out]
    exact ⟨rfl, HF.out⟩
end Go.Proofs.YtpkgjokehgihjaaGreat
/- The walk of chain's sourceOf. -/
set_option linter.unusedVariables false
namespace Go.Proofs.YtpkgjokehgihjaaGreat
open Go.RowKit

abbrev srcV (v vb : Value) : Value := .agg #[v, vb]
abbrev srcO (v vb : Value) : Obj := .cells #[v, vb] 88 (0, 0)
theorem src_info : (Tryz.prog.info? 88).map (·.size) = some 2 := by kernel_rfl
theorem two_store {w : World} {p : Nat} {ty : TypeId} {x0 x1 : Value} (h : w.heap[p]? = some (.cells #[x0, x1] ty (0, 0))) (y0 y1 : Value) :
    (w.cell? ⟨p, 0, none⟩ = some x0 ∧ w.frozen? ⟨p, 0, none⟩ = false) ∧
    ((w.setCell ⟨p, 0, none⟩ y0).cell? ⟨p, 1, none⟩ = some x1 ∧ (w.setCell ⟨p, 0, none⟩ y0).frozen? ⟨p, 1, none⟩ = false) ∧
    ((w.setCell ⟨p, 0, none⟩ y0).setCell ⟨p, 1, none⟩ y1).heap[p]? = some (.cells #[y0, y1] ty (0, 0)) ∧
    Kept (fun k => k = p) w ((w.setCell ⟨p, 0, none⟩ y0).setCell ⟨p, 1, none⟩ y1) := by
  have h1 := heap_setCell_same w p 0 _ _ y0 h
  have h2 := heap_setCell_same _ p 1 _ _ y1 h1
  refine ⟨⟨?_, frozen_of_row w p 0 _ _ h⟩, ⟨?_, frozen_of_row _ p 1 _ _ h1⟩, h2, ?_⟩
  · rw [cell_of_row _ _ _ _ _ _ h]; rfl
  · rw [cell_of_row _ _ _ _ _ _ h1]; rfl
  · exact ((Kept.refl _ _).setCell (by rfl) _).setCell (by rfl) _
theorem beg_next (l : List DSt) (k : Nat) (hk : k < l.length) : begS (l.take (k + 1)) = begS (l.take k) ++ [lenB (l.take k)] := by
  have e1 : (l.take (k + 1)).length = k + 1 := by rw [List.length_take]; omega
  have e2 : (l.take k).length = k := by rw [List.length_take]; omega
  unfold begS
  rw [e1, e2, List.range_succ, List.map_append]
  congr 1
  · refine List.map_congr_left fun j hj => ?_
    have := List.mem_range.1 hj
    rw [List.take_take, List.take_take, Nat.min_eq_left (by omega), Nat.min_eq_left (by omega)]
  · simp [List.take_take]

set_option maxRecDepth 100000 in
set_option maxHeartbeats 1000000 in
theorem sourceOf_any (N : Nat → Prop) (v : Value) (l : List DSt) (w : World) (h : RowS N w v l) (hs : ∀ x ∈ l, stS x = true) (hl : l.length ≤ 1000000) (hlb : lenB l ≤ 1000000) :
    Calls Tryz.prog 43 #[v] w fun e w' => ∃ vb, e = .returned (srcV v vb) ∧ OwnL encN w' w.heap.size 3 vb (begS l) ∧ Below w.heap.size w w' := by
  have ba := below_self_alloc w (srcO (.slice none 0 0) (.slice none 0 0))
  have bb := below_self_alloc (w.alloc (srcO (.slice none 0 0) (.slice none 0 0))) (srcO v (.slice none 0 0))
  have hsw : (w.alloc (srcO (.slice none 0 0) (.slice none 0 0))).heap.size = w.heap.size + 1 := by simp
  have g0 := (Kept.new bb (fun _ => False)).old (heap_alloc_new w (srcO (.slice none 0 0) (.slice none 0 0))) id
  have g1 := heap_alloc_new (w.alloc (srcO (.slice none 0 0) (.slice none 0 0))) (srcO v (.slice none 0 0))
  rw [hsw] at g1
  have HG0 := Lib.hid g0
  have HG1 := Lib.hid g1
  have HB0 := Lib.hid (ba.trans (bb.mono ba.size))
  have HR := Lib.hid h
  have HS := Lib.hid hs
  obtain ⟨a, c, rfl⟩ := h.slice
  clear ba bb hsw g0 g1 h hs
  go_enter Tryz.func43, Tryz.ntmps43
  go_wp2_with fail
  generalize (w.alloc (.cells #[.slice none 0 0, .slice none 0 0] 88)).alloc (.cells #[.slice a l.length c, .slice none 0 0] 88) = w0 at *
  go_loopw [4, 11] (fun m i wr => ∃ (k : Nat) (vb : Value), k ≤ l.length ∧ i = .int .i64 k ∧ m = .int .i64 (lenB (l.take k) : Nat) ∧ wr.heap[w.heap.size + 1]? = some (srcO (.slice a l.length c) vb) ∧ wr.heap[w.heap.size]? = some (srcO (.slice none 0 0) (.slice none 0 0)) ∧ OwnL encN wr w.heap.size 3 vb (begS (l.take k)) ∧ Below w.heap.size w wr) (fun _ i _ => l.length - (intOf i).toNat)
  case atStart => exact ⟨0, .slice none 0 0, by omega, rfl, rfl, HG1.out, HG0.out, OwnL.nil _ _ _ _, HB0.out⟩
  case round =>
    obtain ⟨k, vb, hk, rfl, rfl, hg1, hg0, hown, hbel⟩ := hrel
    have HB := Lib.hid hbel; clear hbel
    have HO := Lib.hid hown; clear hown
    have hbw : w.heap.size ≤ wr.heap.size := HB.out.size
    by_cases hlt : k < l.length
    · obtain ⟨g, o, c', hv, _, hst⟩ := HR.out.at hlt
      injection hv with hv1 hv2 hv3
      subst hv1
      clear hv2 hv3
      obtain ⟨e0, e1, e2⟩ := hst.below HB.out hst.lt
      have hsx := HS.out l[k] (List.getElem_mem _)
      have ho := stok_of hsx
      have hmb := mk_bytes hsx
      have NX := Lib.hid (lenB_next l k hlt)
      have NB := Lib.hid (beg_next l k hlt)
      have hbl : (begS (l.take k)).length ≤ 1000000 := by rw [beg_len, List.length_take]; omega
      have hmono := lenB_mono l (show k + 1 ≤ l.length by omega)
      rw [List.take_length] at hmono
      have hnx := NX.out
      have MK := fun w' => Lib.hid (cmakes_any l[k] w' ho.t (by have := mk_bound' hsx; unfold stS at hsx; split at hsx; (have := of_decide_eq_true hsx; omega); (have := of_decide_eq_true hsx; omega)) (by unfold stS at hsx; split at hsx; (have := of_decide_eq_true hsx; omega); (have := of_decide_eq_true hsx; omega)))
      generalize l[k] = x at *
      obtain ⟨y, hy⟩ : ∃ y : Nat, mkS x = (y : Int) := ⟨(bytesO x).length, by rw [hmb]⟩
      rw [hy] at MK
      have HY := Lib.hid (show lenB (l.take (k + 1)) = lenB (l.take k) + y by rw [NX.out]; omega)
      have hyl : lenB (l.take k) + y ≤ 1000000 := by rw [← HY.out]; omega
      obtain ⟨p, m, t⟩ := x
      dsimp only at e0 e1 e2
      generalize lenB (l.take k) = q at *
      have i0 : (0 : Int) ≤ (k : Int) := by omega
      have i1 : (k : Int) < (l.length : Int) := by omega
      have bx := below_self_alloc wr (stO ⟨p, m, t⟩)
      have hg1x := Lib.hid ((Kept.new bx (fun _ => False)).old hg1 id)
      have hg0x := Lib.hid ((Kept.new bx (fun _ => False)).old hg0 id)
      have HOX := Lib.hid (own_off HO.out (Kept.new bx (fun _ => False)) (fun _ _ _ _ => id))
      have HBX := Lib.hid (HB.out.trans (bx.mono hbw))
      have hbwx : w.heap.size ≤ (wr.alloc (stO ⟨p, m, t⟩)).heap.size := Nat.le_trans hbw bx.size
      obtain ⟨x0, x1, x2⟩ := stO_at wr ⟨p, m, t⟩
      have HXO := Lib.hid (heap_alloc_new wr (stO ⟨p, m, t⟩))
      have HWL := Lib.hid (show w.heap.size + 1 < wr.heap.size from (Array.getElem?_eq_some_iff.1 hg1).1)
      dsimp only at x0 x1 x2
      rw [Nat.zero_add] at x1 x2
      clear hst hg0 hg1 HO HB hy NX hnx hmb hmono ho
      go_upto_region 6 with fail
      generalize wr.alloc (.cells #[.int .i64 p, .int .i64 m, .string ⟨t.toArray⟩] 42) = wx at *
      have cb : wx.cell? ⟨w.heap.size + 1, 1, none⟩ = some vb := by rw [cell_of_row _ _ _ _ _ _ hg1x.out]; rfl
      obtain ⟨va, vm, vc, hvb⟩ := own_slice HOX.out
      subst hvb
      go_wp2_with (at_builtin; refine append_elem (enc := encN) (y := q) rfl _ _ 56 3 (.int .i64 0) 8 (by rfl) Tryz.underlying56 info_i64 rfl w.heap.size _ _ rfl (by rfl) HOX.out (by rfl) (by omega) (by unfold maxLen; omega) hbwx ?_; intro v' w3 hown3 hb3 hk3; obtain ⟨ua, um, uc, rfl⟩ := own_slice hown3; have hne1 : ¬ some (w.heap.size + 1) = (Value.slice va vm vc).ownBlock := (fun e => own_ty HOX.out hg1x.out (by decide) e.symm); have hg13 := hk3.old hg1x.out hne1; have sc : w3.cell? ⟨w.heap.size + 1, 1, none⟩ = some (.slice va vm vc) := (by rw [cell_of_row _ _ _ _ _ _ hg13]; rfl); have sf := frozen_of_row w3 (w.heap.size + 1) 1 _ _ hg13; have hs1 := heap_setCell_same w3 (w.heap.size + 1) 1 _ _ (.slice ua um uc) hg13; have hkS : Kept (· = w.heap.size + 1) w3 (w3.setCell ⟨w.heap.size + 1, 1, none⟩ (.slice ua um uc)) := ((Kept.refl _ w3).setCell (by rfl) _); have HG1S := Lib.hid (show (w3.setCell ⟨w.heap.size + 1, 1, none⟩ (.slice ua um uc)).heap[w.heap.size + 1]? = some (srcO (.slice (some ⟨g, o, none⟩) l.length c) (.slice ua um uc)) from hs1); have HG0S := Lib.hid (hkS.old (hk3.old hg0x.out (fun e => own_ty HOX.out hg0x.out (by decide) e.symm)) (by omega)); have HOS := Lib.hid (show OwnL encN (w3.setCell ⟨w.heap.size + 1, 1, none⟩ (.slice ua um uc)) w.heap.size 3 (.slice ua um uc) (begS (l.take (k + 1))) from (by rw [NB.out]; exact own_off hown3 hkS (fun g' cur hg' e1 e2 => own_ty hown3 hg13 (by decide) (e2 ▸ e1)))); have HBS := Lib.hid (HBX.out.trans (hb3.trans (hkS.below (Nat.le_trans hbwx hb3.size) (fun k e => by omega)))); have hXS := hkS.old (hk3.old HXO.out (fun e => own_ty HOX.out HXO.out (by decide) e.symm)) (by have := HWL.out; omega); have y0 : (w3.setCell ⟨w.heap.size + 1, 1, none⟩ (.slice ua um uc)).cell? ⟨wr.heap.size, 0, none⟩ = some (.int .i64 p) := (by rw [cell_of_row _ _ _ _ _ _ hXS]; rfl); have y1 : (w3.setCell ⟨w.heap.size + 1, 1, none⟩ (.slice ua um uc)).cell? ⟨wr.heap.size, 1, none⟩ = some (.int .i64 m) := (by rw [cell_of_row _ _ _ _ _ _ hXS]; rfl); have y2 : (w3.setCell ⟨w.heap.size + 1, 1, none⟩ (.slice ua um uc)).cell? ⟨wr.heap.size, 2, none⟩ = some (.string ⟨t.toArray⟩) := (by rw [cell_of_row _ _ _ _ _ _ hXS]; rfl); clear hs1 hkS hXS hg13 hne1 hown3 hb3 hk3 x0 x1 x2 cb)
      clear HOX hg1x hg0x NB
      generalize w3.setCell ⟨w.heap.size + 1, 1, none⟩ (.slice ua um uc) = w4 at *
      go_wp2_with fail
      refine (MK _).out.mono ?_
      rintro e w5 ⟨rfl, hb5⟩
      have HG15 := Lib.hid (old_of hb5 HG1S.out)
      have HG05 := Lib.hid (old_of hb5 HG0S.out)
      have HO5 := Lib.hid (own_off HOS.out (Kept.new hb5 (fun _ => False)) (fun _ _ _ _ => id))
      have HB5 := Lib.hid (HBS.out.trans (hb5.mono HBS.out.size))
      clear hb5 y0 y1 y2 sc sf MK
      go_wp2_with fail
      go_roundw
      case rel => exact ⟨k + 1, _, by omega, by go_num, by rw [HY.out, Int.natCast_add], HG15.out, HG05.out, HO5.out, HB5.out⟩
      case measure => simp [intOf]; omega
    · obtain rfl : k = l.length := by omega
      have i1 : ¬ (l.length : Int) < (l.length : Int) := by omega
      rw [List.take_length] at HO
      have s0 : wr.cell? ⟨w.heap.size + 1, 0, none⟩ = some (.slice a l.length c) := by rw [cell_of_row _ _ _ _ _ _ hg1]; rfl
      have s1 : wr.cell? ⟨w.heap.size + 1, 1, none⟩ = some vb := by rw [cell_of_row _ _ _ _ _ _ hg1]; rfl
      obtain ⟨⟨S0, S0f⟩, ⟨S1, S1f⟩, s4', s5'⟩ := two_store hg0 (.slice a l.length c) vb
      obtain ⟨va, vm, vc, rfl⟩ := own_slice HO.out
      have S4 := Lib.hid s4'
      have HF := Lib.hid (HB.out.trans (s5'.below HB.out.size (fun k e => by omega)))
      have HO5 := Lib.hid (own_off HO.out s5' (fun g' cur hg' e1 e2 => own_ty HO.out hg0 (by decide) (e2 ▸ e1)))
      clear s4' s5' hg0 hg1
      go_wp2_with fail
      refine bodyPost_ret (v := srcV (.slice a l.length c) (.slice va vm vc)) (results_cell_row Tryz.results43 _ _ w.heap.size _ _ _ _ rfl S4.out Tryz.underlying88 rfl src_info) rfl ?_
      exact ⟨_, rfl, HO5.out, HF.out⟩
end Go.Proofs.YtpkgjokehgihjaaGreat
/- The walk of a source's add: the steps that make a piece of a text. -/
set_option linter.unusedVariables false
namespace Go.Proofs.YtpkgjokehgihjaaGreat
open Go.RowKit

theorem begI_getD (l : List DSt) (j : Nat) (h : j < ((begS l).map (fun n : Nat => (n : Int))).length) : ((begS l).map (fun n : Nat => (n : Int))).getD j 0 = ((lenB (l.take j) : Nat) : Int) := by
  rw [List.getD_eq_getElem?_getD, List.getElem?_eq_getElem h, Option.getD_some, List.getElem_map, beg_get]
theorem begI_len (l : List DSt) : ((begS l).map (fun n : Nat => (n : Int))).length = l.length := by rw [List.length_map, beg_len]
set_option maxRecDepth 100000 in
set_option maxHeartbeats 1000000 in
/-- The search in the places at which steps begin. -/
theorem begSearch_any (l : List DSt) (gb cb at' : Nat) (w : World) (hs : ∀ x ∈ l, stS x = true) (hl : l.length ≤ 1000000) (hc : ∀ j, j < l.length → w.cell? ⟨gb, j, none⟩ = some (.int .i64 (lenB (l.take j) : Nat))) (ha : at' < lenB l) :
    ∃ i, i < l.length ∧ lenB (l.take i) ≤ at' ∧ at' < lenB (l.take (i + 1)) ∧ ∃ (c : Nat) (b : Bool), (b = true ∧ c = i ∨ b = false ∧ c = i + 1) ∧
      Calls Tryz.prog 68 #[.slice (some ⟨gb, 0, none⟩) l.length cb, .int .i64 at'] w fun e w' => e = .returned (.tuple #[.int .i64 (c : Nat), .bool b]) ∧ ∃ q, w' = w.drewN q := by
  obtain ⟨i, h1, h2, h3⟩ := step_of l at' ha
  have hlen := begI_len l
  have K := Tryz.slices_BinarySearch_int gb 0 l.length cb ((begS l).map (fun n : Nat => (n : Int))) (at' : Int) w (by rw [hlen]; exact Nat.le_refl _) (by omega) (fun j hj => by
    rw [begI_getD l j hj, Nat.zero_add]
    exact hc j (by rw [hlen] at hj; exact hj)) (by
    rw [List.take_of_length_le (by rw [hlen]; exact Nat.le_refl _)]
    exact beg_sorted l)
  rw [List.take_of_length_le (by rw [hlen]; exact Nat.le_refl _)] at K
  refine ⟨i, h1, h2, h3, ?_⟩
  rcases beg_search l hs at' i h1 h2 h3 with ⟨_, e1, e2⟩ | ⟨_, e1, e2⟩
  · rw [e1, e2] at K
    exact ⟨i, true, .inl ⟨rfl, rfl⟩, K⟩
  · rw [e1, e2] at K
    exact ⟨i + 1, false, .inr ⟨rfl, rfl⟩, K⟩
set_option maxRecDepth 100000 in
set_option maxHeartbeats 1000000 in
theorem srcAdd_any (N : Nat → Prop) (base : Nat) (v vl : Value) (S L : List DSt) (gb cb a0 n0 : Nat) (w : World) (h : RowS N w v S) (hN : ∀ g, N g → g < base) (hs : ∀ x ∈ S, stS x = true) (hl : S.length ≤ 1000000) (hlb : lenB S ≤ 1000000) (han : a0 + n0 ≤ lenB S) (hn0 : 0 < n0)
    (hc : ∀ j, j < S.length → w.cell? ⟨gb, j, none⟩ = some (.int .i64 (lenB (S.take j) : Nat))) (hgb : ¬ vl.ownBlock = some gb) (ho : OwnS w base vl L) (hL : L.length ≤ 1000000) (hb : base ≤ w.heap.size) :
    Calls Tryz.prog 44 #[srcV v (.slice (some ⟨gb, 0, none⟩) S.length cb), vl, .int .i64 a0, .int .i64 n0] w fun e w' =>
      ∃ v', e = .returned v' ∧ ∃ C, OwnS w' base v' (L ++ C) ∧ TurnS base w vl w' v' ∧ bytesA C = ((bytesA S).drop a0).take n0 ∧ (∀ c ∈ C, stS c = true) ∧ C.length ≤ n0 := by
  have ba := below_self_alloc w (srcO v (.slice (some ⟨gb, 0, none⟩) S.length cb))
  have s0 : (w.alloc (srcO v (.slice (some ⟨gb, 0, none⟩) S.length cb))).cell? ⟨w.heap.size, 0, none⟩ = some v := by rw [cell_of_row _ _ _ _ _ _ (heap_alloc_new _ _)]; rfl
  have s1 : (w.alloc (srcO v (.slice (some ⟨gb, 0, none⟩) S.length cb))).cell? ⟨w.heap.size, 1, none⟩ = some (.slice (some ⟨gb, 0, none⟩) S.length cb) := by rw [cell_of_row _ _ _ _ _ _ (heap_alloc_new _ _)]; rfl
  have HG1 := Lib.hid (heap_alloc_new w (srcO v (.slice (some ⟨gb, 0, none⟩) S.length cb)))
  have HC := Lib.hid (fun j hj => (ba.cell (World.block_lt_of_cell? _ _ (hc j hj))).trans (hc j hj))
  have HO1 := Lib.hid (ho.new ba)
  have HT1 := Lib.hid (TurnS.own_new (v := vl) ba hb)
  have HR1 := Lib.hid (h.keep ba)
  have HR0 := Lib.hid h
  have HC0 := Lib.hid hc
  have HNO := Lib.hid (show ¬ vl.ownBlock = some w.heap.size from fun e => by have := (ho.lt e).2.1; omega)
  have HB1 := Lib.hid (Nat.le_trans hb ba.size)
  have hsz : (w.alloc (srcO v (.slice (some ⟨gb, 0, none⟩) S.length cb))).heap.size = w.heap.size + 1 := by simp
  have HSZ := Lib.hid hsz
  have HS := Lib.hid hs
  obtain ⟨i0, hi0, hia, hib, c0, b0, hcb, BS⟩ := begSearch_any S gb cb a0 (w.alloc (srcO v (.slice (some ⟨gb, 0, none⟩) S.length cb))) hs hl HC.out (by omega)
  have HBS := Lib.hid BS
  obtain ⟨av, kv, rfl⟩ := h.slice
  have HN := Lib.hid hN
  have hb0 := hb
  clear ba hc ho hb hsz hs h BS hN
  go_enter Tryz.func44, Tryz.ntmps44
  go_wp2_with fail
  generalize w.alloc (.cells #[.slice av S.length kv, .slice (some ⟨gb, 0, none⟩) S.length cb] 88) = w1 at *
  refine HBS.out.mono ?_
  rintro e w2 ⟨rfl, q, rfl⟩
  have hdr := Below_drewN (Below.refl w1.heap.size w1) q
  have HO2 := Lib.hid (HO1.out.new hdr)
  have HT2 := Lib.hid (HT1.out.new hdr hb0)
  have HC2 := Lib.hid (fun j hj => (hdr.cell (World.block_lt_of_cell? _ _ (HC.out j hj))).trans (HC.out j hj))
  have e0 : (w1.drewN q).cell? ⟨w.heap.size, 0, none⟩ = some (.slice av S.length kv) := s0
  have e1 : (w1.drewN q).cell? ⟨w.heap.size, 1, none⟩ = some (.slice (some ⟨gb, 0, none⟩) S.length cb) := s1
  have HR2 := Lib.hid (HR1.out.keep hdr)
  have HG2 := Lib.hid ((Kept.new hdr (fun _ => False)).old HG1.out id)
  have HB2 := Lib.hid (Nat.le_trans HB1.out hdr.size)
  clear hdr s0 s1 HO1 HT1 HC HR1 HB1 HBS
  generalize w1.drewN q = w2 at *
  go_upto_if 20 with fail
  go_cut [9] (fun v9 wx => v9 = .int .i64 (i0 : Nat) ∧ wx = w2)
  case first =>
    rcases hcb with ⟨rfl, rfl⟩ | ⟨rfl, rfl⟩
    · go_wp2_with fail
      go_meet
      exact ⟨rfl, rfl⟩
    · have i2 : ((i0 + 1 : Nat) : Int) - 1 = (i0 : Int) := by omega
      go_wp2_with fail
      go_meet
      exact ⟨by simp, rfl⟩
  case rest =>
    obtain ⟨rfl, rfl⟩ := hcut
    go_wp2_with fail
    go_loopw [1, 2, 3, 9] (fun sl sa sn si wr => ∃ (i a m : Nat) (C : List DSt), sa = .int .i64 (a : Nat) ∧ sn = .int .i64 (m : Nat) ∧ si = .int .i64 (i : Nat) ∧ i ≤ S.length ∧ OwnS wr base sl (L ++ C) ∧ TurnS base w vl wr sl ∧ (0 < m → i < S.length ∧ lenB (S.take i) ≤ a ∧ a < lenB (S.take (i + 1))) ∧ a + m = a0 + n0 ∧ Hid (bytesA C ++ ((bytesA S).drop a).take m = ((bytesA S).drop a0).take n0) ∧ (∀ c ∈ C, stS c = true) ∧ C.length + m ≤ n0 ∧ wr.heap[w.heap.size]? = some (srcO (.slice av S.length kv) (.slice (some ⟨gb, 0, none⟩) S.length cb))) (fun _ _ sn _ _ => (intOf sn).toNat)
    case atStart => exact ⟨i0, a0, n0, [], rfl, rfl, rfl, by omega, by rw [List.append_nil]; exact HO2.out, HT2.out, fun _ => ⟨hi0, hia, hib⟩, rfl, Lib.hid (by rw [bytes_nil, List.nil_append]), by simp, by simp, HG2.out⟩
    case round =>
      obtain ⟨i, a, m, C, rfl, rfl, rfl, hi, hown, htn, hpos, ham, HCB, hcs, hcl, hg0⟩ := hrel
      have HG := Lib.hid hg0
      have f0 : wr.cell? ⟨w.heap.size, 0, none⟩ = some (.slice av S.length kv) := by rw [cell_of_row _ _ _ _ _ _ hg0]; rfl
      have f1 : wr.cell? ⟨w.heap.size, 1, none⟩ = some (.slice (some ⟨gb, 0, none⟩) S.length cb) := by rw [cell_of_row _ _ _ _ _ _ hg0]; rfl
      clear hg0
      have HO := Lib.hid hown; clear hown
      have HT := Lib.hid htn; clear htn
      have HCS := Lib.hid hcs; clear hcs
      clear e0 e1
      by_cases hm : 0 < m
      · obtain ⟨hi1, hi2, hi3⟩ := hpos hm
        have im : (0 : Int) < (m : Int) := by omega
        have ii0 : (0 : Int) ≤ (i : Int) := by omega
        have ii1 : (i : Int) < (S.length : Int) := by omega
        have hx := HS.out S[i] (List.getElem_mem _)
        have hnb := lenB_next S i hi1
        obtain ⟨g, o, c', hv, hng, hst⟩ := HR0.out.at hi1
        injection hv with hv1 hv2 hv3
        subst hv1
        clear hv2 hv3
        obtain ⟨x0, x1, x2⟩ := hst.below HT.out.bel (HN.out g hng)
        have cb0 := HT.out.cellOld (HC0.out i hi1) hgb
        have hbw : base ≤ wr.heap.size := by have := HT.out.kept.size; omega
        have hmono := lenB_mono S (show i + 1 ≤ S.length by omega)
        rw [List.take_length] at hmono
        obtain ⟨k, hk⟩ : ∃ k, k = min m (lenB (S.take (i + 1)) - a) := ⟨_, rfl⟩
        have HPS := Lib.hid (piece_step S HS.out a m i hi1 hi2 hi3 k hk)
        have CU := Lib.hid (fun w' => cut_any2 S[i] (a - lenB (S.take i)) m w' hx (by omega) hm (by omega))
        rw [show min m ((bytesO S[i]).length - (a - lenB (S.take i))) = k by omega] at CU
        have HCB2 := Lib.hid (cut_bytes hx (a - lenB (S.take i)) k (by omega) (by omega))
        have W1 : IntKind.i64.wrap ((a : Int) - ((lenB (S.take i) : Nat) : Int)) = ((a - lenB (S.take i) : Nat) : Int) := by rw [IntKind.wrap_i64]; omega
        have hkm : k ≤ m := by omega
        have hk0 : 0 < k := by omega
        have hkb : k ≤ 1000000 := by omega
        have hnext : 0 < m - k → i + 1 < S.length ∧ lenB (S.take (i + 1)) ≤ a + k ∧ a + k < lenB (S.take (i + 1 + 1)) := by
          intro hmk
          have h1 : a + k = lenB (S.take (i + 1)) := by omega
          have h2 : i + 1 < S.length := by
            rcases Nat.lt_or_ge (i + 1) S.length with c | c
            · exact c
            · have : S.take (i + 1) = S := List.take_of_length_le c
              rw [this] at h1
              omega
          have h3 := lenB_lt S HS.out (show i + 1 < i + 1 + 1 by omega) (by omega)
          omega
        have HNX := Lib.hid hnext
        have HAK := Lib.hid (show (a - lenB (S.take i)) + k ≤ (bytesO S[i]).length by omega)
        clear hnext hk
        generalize hq : lenB (S.take i) = q at *
        generalize S[i] = x at *
        obtain ⟨y, hy⟩ : ∃ y, y = cutO x (a - q) k := ⟨_, rfl⟩
        rw [← hy] at CU HCB2
        clear hy hst
        obtain ⟨p, mm, t⟩ := x
        dsimp only at x0 x1 x2
        generalize a - q = aq at *
        go_upto_region 6 with fail
        have S6 := Lib.hid (fun w' (hb : Below wr.heap.size wr w') => show w'.cell? ⟨w.heap.size, 0, none⟩ = some (.slice (some ⟨g, o, none⟩) S.length kv) ∧ w'.cell? ⟨w.heap.size, 1, none⟩ = some (.slice (some ⟨gb, 0, none⟩) S.length cb) ∧ w'.cell? ⟨g, o + i * 3, none⟩ = some (.int .i64 p) ∧ w'.cell? ⟨g, o + i * 3 + 1, none⟩ = some (.int .i64 mm) ∧ w'.cell? ⟨g, o + i * 3 + 2, none⟩ = some (.string ⟨t.toArray⟩) ∧ w'.cell? ⟨gb, i, none⟩ = some (.int .i64 (q : Nat)) from
          ⟨(hb.cell (World.block_lt_of_cell? _ _ f0)).trans f0, (hb.cell (World.block_lt_of_cell? _ _ f1)).trans f1, (hb.cell (World.block_lt_of_cell? _ _ x0)).trans x0, (hb.cell (World.block_lt_of_cell? _ _ x1)).trans x1, (hb.cell (World.block_lt_of_cell? _ _ x2)).trans x2, (hb.cell (World.block_lt_of_cell? _ _ cb0)).trans cb0⟩)
        obtain ⟨e0, e1, y0, y1, y2, y3⟩ := S6.out wr.drew (Below_drew (Below.refl _ _))
        have HF0 := Lib.hid f0
        have HF1 := Lib.hid f1
        have hbz : Below wr.heap.size wr (wr.alloc (.cells #[.int .i64 0, .int .i64 0, .string ⟨#[]⟩] 42)).drew := Below_drew ((Below.refl _ _).alloc (Nat.le_refl _) _)
        have HBZ := Lib.hid hbz
        have HZZ := Lib.hid (show (wr.alloc (.cells #[.int .i64 0, .int .i64 0, .string ⟨#[]⟩] 42)).drew.heap[wr.heap.size]? = some (stO ⟨0, 0, []⟩) from heap_alloc_new _ _)
        obtain ⟨z0, z1, z2, z3, z4, z5⟩ := S6.out _ hbz
        clear hbz
        have hA0 : Hid (Below wr.heap.size wr wr.drew) := Lib.hid (Below_drew (Below.refl _ _))
        clear x0 x1 x2 cb0 f0 f1
        go_cut [11] (fun v11 wx => ∃ px, v11 = .pointer (some ⟨px, 0, none⟩) ∧ DStAt wx px 0 y ∧ wr.heap.size ≤ px ∧ Below wr.heap.size wr wx)
        case first =>
          go_region_held3? (fun w' => w'.cell? ⟨w.heap.size, 0, none⟩ = some (.slice (some ⟨g, o, none⟩) S.length kv) ∧ w'.cell? ⟨w.heap.size, 1, none⟩ = some (.slice (some ⟨gb, 0, none⟩) S.length cb) ∧ w'.cell? ⟨g, o + i * 3, none⟩ = some (.int .i64 p) ∧ w'.cell? ⟨g, o + i * 3 + 1, none⟩ = some (.int .i64 mm) ∧ w'.cell? ⟨g, o + i * 3 + 2, none⟩ = some (.string ⟨t.toArray⟩) ∧ w'.cell? ⟨gb, i, none⟩ = some (.int .i64 (q : Nat)))
            (first | with_reducible exact ⟨by assumption, by assumption, by assumption, by assumption, by assumption, by assumption⟩ | (refine S6.out _ ?_; fail))
            (first
              | (go_at_call 69; go_split_ands; refine (CU.out (wr.alloc (.cells #[.int .i64 0, .int .i64 0, .string ⟨#[]⟩] 42)).drew).mono ?_; rintro e wA ⟨rfl, bA⟩; have hA := below2 HBZ.out bA; obtain ⟨a0, a1, a2, a3, a4, a5⟩ := S6.out wA hA; obtain ⟨⟨T0, T0f⟩, ⟨T1, T1f⟩, ⟨T2, T2f⟩, T4, T5⟩ := three_store (old_of bA HZZ.out) (.int .i64 y.pos) (.int .i64 y.len) (.string ⟨y.txt.toArray⟩); have hT := hA.trans (T5.below hA.size (fun k e => by omega)); obtain ⟨b0, b1, b2, b3, b4, b5⟩ := S6.out _ hT; have HFB := Lib.hid hT; have HFC := Lib.hid T4; clear T4 T5 hT hA)
              | (go_at_call 69; go_split_ands; refine (CU.out _).mono ?_; rintro e wA ⟨rfl, bA⟩; have hA := below2 (Hid.out (by assumption : Hid (Below wr.heap.size wr _))) bA; obtain ⟨a0, a1, a2, a3, a4, a5⟩ := S6.out wA hA; obtain ⟨b0, b1, b2, b3, b4, b5⟩ := S6.out (wA.alloc (.cells #[.int .i64 0, .int .i64 0, .string ⟨#[]⟩] 42)) (hA.alloc hA.size _); obtain ⟨d0, d1, d2, d3, d4, d5⟩ := S6.out (wA.alloc (stO y)) (hA.alloc hA.size _)))
          all_goals
            go_wp2_with fail
            go_meet
            first
              | exact ⟨_, rfl, stO_at wA y, hA.size, hA.alloc hA.size _⟩
              | exact ⟨_, rfl, ⟨by rw [cell_of_row _ _ _ _ _ _ HFC.out]; rfl, by rw [cell_of_row _ _ _ _ _ _ HFC.out]; rfl, by rw [cell_of_row _ _ _ _ _ _ HFC.out]; rfl⟩, Nat.le_refl _, HFB.out⟩
        case rest =>
          obtain ⟨px, rfl, hyy, hpx, hbx⟩ := hcut
          obtain ⟨hcb1, hcb2⟩ := HCB2.out
          have hyl : (bytesO y).length = k := by have := HAK.out; rw [hcb1, List.length_take, List.length_drop]; omega
          have hmy : mkS y = (k : Int) := by rw [← mk_bytes hcb2, hyl]
          have hyo := stok_of hcb2
          have MK := fun w' => Lib.hid (cmakes_any y w' hyo.t (by unfold stS at hcb2; split at hcb2; (have := of_decide_eq_true hcb2; omega); (have := of_decide_eq_true hcb2; omega)) (by unfold stS at hcb2; split at hcb2; (have := of_decide_eq_true hcb2; omega); (have := of_decide_eq_true hcb2; omega)))
          rw [hmy] at MK
          have HYB := Lib.hid (show bytesA (C ++ [y]) ++ ((bytesA S).drop (a + k)).take (m - k) = ((bytesA S).drop a0).take n0 by
            rw [bytes_append, bytes_one, hcb1, List.append_assoc, ← HPS.out]; exact HCB.out)
          have HCS2 := Lib.hid (show ∀ c ∈ C ++ [y], stS c = true from fun c hc => (List.mem_append.1 hc).elim (HCS.out c) (fun h => by rw [List.mem_singleton.1 h]; exact hcb2))
          have hlc : (L ++ C).length ≤ 2000000 := by rw [List.length_append]; omega
          have HOx := Lib.hid (HO.out.new hbx)
          have HTx := Lib.hid (HT.out.new hbx hb0)
          have HGx := Lib.hid ((Kept.new hbx (fun _ => False)).old HG.out id)
          have hbwx : base ≤ wc.heap.size := Nat.le_trans hbw hbx.size
          have HNP := Lib.hid (show ¬ Value.ownBlock _ = some px from fun e => by have := (HO.out.lt e).2.1; omega)
          obtain ⟨y0, y1, y2⟩ := hyy
          rw [Nat.zero_add] at y1 y2
          have hne : ¬ Value.ownBlock _ = some w.heap.size := own_ty HOx.out HGx.out (by decide)
          clear HO HT HG e0 e1 z0 z1 z2 z3 z4 z5 hA0 HBZ HZZ S6 HCB2 HPS HCB CU W1 hcb1
          have HYO := Lib.hid (show OwnS wc base _ (L ++ C) from HOx.out)
          obtain ⟨yp, ym, yt⟩ := y
          dsimp only at y0 y1 y2
          go_wp2_with (at_builtin; refine append_st (w := wc) (by rfl) (.tmp 41) (.tmp 43) 32 _ (by rfl) Tryz.underlying32 info_step (by rfl) base _ (L ++ C) ⟨yp, ym, yt⟩ (by rfl) HOx.out (by rfl) hlc hbwx ?_; intro v' w3 hown3 htn3; have z0 := htn3.cellOld y0 HNP.out; have z1 := htn3.cellOld y1 HNP.out; have z2 := htn3.cellOld y2 HNP.out; have HG3 := Lib.hid (htn3.kept.old HGx.out hne); have HO3 := Lib.hid hown3; have HT3 := Lib.hid (HTx.out.trans htn3); clear htn3 hown3 y0 y1 y2)
          have W2 : IntKind.i64.wrap ((a : Int) + (k : Int)) = ((a + k : Nat) : Int) := by rw [IntKind.wrap_i64]; omega
          have W3 : IntKind.i64.wrap ((m : Int) - (k : Int)) = ((m - k : Nat) : Int) := by rw [IntKind.wrap_i64]; omega
          have W4 : IntKind.i64.wrap ((i : Int) + 1) = ((i + 1 : Nat) : Int) := by rw [IntKind.wrap_i64]; omega
          have wa : IntKind.i64.wrap ((i : Int) + 1) = (i : Int) + 1 := by rw [IntKind.wrap_i64]; omega
          refine (MK _).out.mono ?_
          rintro e wA ⟨rfl, bA⟩
          have z3 := (bA.cell (World.block_lt_of_cell? _ _ z0)).trans z0
          have z4 := (bA.cell (World.block_lt_of_cell? _ _ z1)).trans z1
          have z5 := (bA.cell (World.block_lt_of_cell? _ _ z2)).trans z2
          have HGA := Lib.hid ((Kept.new bA (fun _ => False)).old HG3.out id)
          have HOA := Lib.hid (HO3.out.new bA)
          have HTA := Lib.hid (HT3.out.new bA hb0)
          clear z0 z1 z2
          go_wp2_with fail
          refine (MK _).out.mono ?_
          rintro e wB ⟨rfl, bB⟩
          have HGB := Lib.hid ((Kept.new bB (fun _ => False)).old HGA.out id)
          have HOB := Lib.hid (HOA.out.new bB)
          have HTB := Lib.hid (HTA.out.new bB hb0)
          clear z3 z4 z5
          go_wp2_with fail
          go_roundw
          · exact ⟨i + 1, a + k, m - k, C ++ [⟨yp, ym, yt⟩], by first | rfl | (rw [W2]) | (congr 1; omega), by first | rfl | (rw [W3]) | (congr 1; omega), by first | rfl | (rw [W4]) | (congr 1; omega), by omega, by rw [← List.append_assoc]; exact HOB.out, HTB.out, HNX.out, by omega, HYB, HCS2.out, by rw [List.length_append, List.length_singleton]; omega, HGB.out⟩
          · show (intOf _).toNat < (intOf _).toNat
            simp [intOf]
            omega
      · obtain rfl : m = 0 := by omega
        have im : ¬ (0 : Int) < ((0 : Nat) : Int) := by omega
        have HBC := Lib.hid (show bytesA C = ((bytesA S).drop a0).take n0 by rw [← HCB.out, List.take_zero, List.append_nil])
        go_wp2_with fail
        go_ret
        exact ⟨_, rfl, C, HO.out, HT.out, HBC.out, HCS.out, by omega⟩
end Go.Proofs.YtpkgjokehgihjaaGreat
/- The walk of chain's through: the second ones' steps on what the first ones make. -/
set_option linter.unusedVariables false
namespace Go.Proofs.YtpkgjokehgihjaaGreat
open Go.RowKit

/-- The places at which steps begin, as they lie. -/
theorem begs_at {w : World} {base : Nat} {vb : Value} {l : List DSt} (h : OwnL encN w base 3 vb (begS l)) (hl : 0 < l.length) :
    ∃ gb cb cur, vb = .slice (some ⟨gb, 0, none⟩) l.length cb ∧ w.heap[gb]? = some (.cells cur 3 (0, 0)) ∧ ∀ j, j < l.length → w.cell? ⟨gb, j, none⟩ = some (.int .i64 (lenB (l.take j) : Nat)) := by
  have hlen := beg_len l
  rcases h.2 with ⟨rfl, hn⟩ | ⟨g, cap, cur, rfl, hb, hg, _⟩
  · omega
  · refine ⟨g, cap, cur, by rw [hlen], hg, fun j hj => ?_⟩
    have hj' : j < (begS l).length := by omega
    have := World.ownsRow.cells h (g := g) rfl j (encN ((begS l)[j]'hj')) (by simp [hj'])
    rw [addr_add0] at this
    rw [this]
    show some (Value.int .i64 (((begS l)[j]'hj' : Nat) : Int)) = _
    rw [beg_get]
theorem OwnL.turn {w w' : World} {base b0 : Nat} {v v' vb : Value} {xs : List Nat} {ls : List DSt} (h : OwnL encN w base 3 vb xs) (ht : TurnS b0 w v w' v') (ho : OwnS w b0 v ls) : OwnL encN w' base 3 vb xs :=
  own_off h ht.kept (fun g cur hg e1 e2 => own_ty ho hg (by decide) e2)
theorem src_turn {w w' : World} {b0 p : Nat} {v v' x y : Value} {ls : List DSt} (h : w.heap[p]? = some (srcO x y)) (ht : TurnS b0 w v w' v') (ho : OwnS w b0 v ls) : w'.heap[p]? = some (srcO x y) :=
  ht.kept.old h (own_ty ho h (by decide))
theorem RowS.lts {N : Nat → Prop} {w : World} {v : Value} {xs : List DSt} (h : RowS N w v xs) : RowS (· < w.heap.size) w v xs := by
  obtain ⟨a, c, rfl, hc⟩ := h
  refine ⟨a, c, rfl, fun i hi => ?_⟩
  obtain ⟨g, o, rfl, hn, hx⟩ := hc i hi
  exact ⟨g, o, rfl, hx.lt, hx⟩
theorem comp_one {B : List BT} {x : DSt} (h : stS x = true) (hr : InR (bytesO x) B.length) : x.txt = [] → ∃ a n : Nat, x.pos = (a : Int) ∧ x.len = (n : Int) ∧ 0 < n ∧ a + n ≤ B.length ∧ (bytesO x).length = n ∧ compB B (bytesO x) = (B.drop a).take n := by
  intro ht
  have hi := (inR_one h B.length).1 hr
  unfold stS at h
  rw [if_neg (by simp [ht])] at h
  have h1 := of_decide_eq_true h
  refine ⟨x.pos.toNat, x.len.toNat, by omega, by omega, by omega, by omega, ?_, ?_⟩
  · unfold bytesO
    rw [if_neg (by simp [ht]), places_len]
  unfold bytesO
  rw [if_neg (by simp [ht])]
  obtain ⟨p, m, t⟩ := x
  dsimp only at h1 hi ⊢
  obtain ⟨a, rfl⟩ : ∃ a : Nat, p = (a : Int) := ⟨p.toNat, by omega⟩
  rw [comp_places _ _ _ (by omega), Int.toNat_natCast]

set_option maxRecDepth 100000 in
set_option maxHeartbeats 1000000 in
theorem through_any (N M : Nat → Prop) (v1 v2 : Value) (l1 l2 : List DSt) (w : World) (h1 : RowS N w v1 l1) (h2 : RowS M w v2 l2) (s1 : ∀ x ∈ l1, stS x = true) (s2 : ∀ x ∈ l2, stS x = true)
    (n1 : l1.length ≤ 1000000) (n2 : l2.length ≤ 1000000) (b1 : lenB l1 ≤ 1000000) (b2 : lenB l2 ≤ 1000000) (hr : InR (bytesA l2) (bytesA l1).length) :
    Calls Tryz.prog 29 #[v1, v2] w fun e w' => ∃ v', e = .returned v' ∧ ∃ C, OwnS w' w.heap.size v' C ∧ bytesA C = compB (bytesA l1) (bytesA l2) ∧ (∀ c ∈ C, stS c = true) ∧ C.length ≤ lenB l2 ∧ Below w.heap.size w w' := by
  have HR1 := Lib.hid h1.lts
  have HR2 := Lib.hid h2.lts
  have SO := Lib.hid (sourceOf_any _ v1 l1 w h1 s1 n1 b1)
  have HS1 := Lib.hid s1
  have HS2 := Lib.hid s2
  have HRR := Lib.hid hr
  obtain ⟨a, c, rfl⟩ := h2.slice
  clear h1 h2 s1 s2 hr
  go_enter Tryz.func29, Tryz.ntmps29
  go_wp2_with fail
  refine SO.out.mono ?_
  rintro e w2 ⟨vb, rfl, hob, hb2⟩
  obtain ⟨va, vm, vc, rfl⟩ := own_slice hob
  obtain ⟨a1, c1, rfl⟩ := HR1.out.slice
  have bs := below_self_alloc w2 (srcO (.slice a1 l1.length c1) (.slice va vm vc))
  have HB2 := Lib.hid (hb2.trans (bs.mono hb2.size))
  have HOB := Lib.hid (show OwnL encN (w2.alloc (srcO (.slice a1 l1.length c1) (.slice va vm vc))) w.heap.size 3 (.slice va vm vc) (begS l1) from own_off hob (Kept.new bs (fun _ => False)) (fun _ _ _ _ => id))
  have HGS := Lib.hid (heap_alloc_new w2 (srcO (.slice a1 l1.length c1) (.slice va vm vc)))
  clear bs hob hb2 SO
  go_wp2_with fail
  generalize hp : w2.heap.size = p6 at *
  generalize w2.alloc (.cells #[.slice a1 l1.length c1, .slice va vm vc] 88) = w3 at *
  generalize hv1 : Value.slice a1 l1.length c1 = v1 at *
  generalize hvb : Value.slice va vm vc = vb at *
  go_loopw [5, 13] (fun sl si wr => ∃ (k : Nat) (C : List DSt), k ≤ l2.length ∧ si = .int .i64 k ∧ OwnS wr w.heap.size sl C ∧ OwnL encN wr w.heap.size 3 vb (begS l1) ∧ wr.heap[p6]? = some (srcO v1 vb) ∧ Hid (bytesA C = compB (bytesA l1) (bytesA (l2.take k))) ∧ (∀ c ∈ C, stS c = true) ∧ C.length ≤ lenB (l2.take k) ∧ Below w.heap.size w wr) (fun _ si _ => l2.length - (intOf si).toNat)
  case atStart => exact ⟨0, [], by omega, rfl, OwnS.nil _ _, HOB.out, HGS.out, Lib.hid rfl, by simp, by simp, HB2.out⟩
  case round =>
    obtain ⟨k, C, hk, rfl, hown, hbeg, hgs, HBC, hcs, hcl, hbel⟩ := hrel
    have HO := Lib.hid hown; clear hown
    have HBG := Lib.hid hbeg; clear hbeg
    have HG := Lib.hid hgs; clear hgs
    have HB := Lib.hid hbel; clear hbel
    have HCS := Lib.hid hcs; clear hcs
    have hbw := HB.out.size
    by_cases hlt : k < l2.length
    · obtain ⟨g, o, c', hv, hng, hst⟩ := HR2.out.at hlt
      injection hv with hv1 hv2 hv3
      subst hv1
      clear hv2 hv3
      obtain ⟨e0, e1, e2⟩ := hst.below HB.out hst.lt
      have hsx := HS2.out l2[k] (List.getElem_mem _)
      have ho := stok_of hsx
      have hrx : InR (bytesO l2[k]) (bytesA l1).length := by
        have := HRR.out
        rw [← List.take_append_drop k l2, List.drop_eq_getElem_cons hlt, bytes_append, bytes_cons, InR.append, InR.append] at this
        exact this.2.1
      have NX := Lib.hid (lenB_next l2 k hlt)
      have NB := Lib.hid (show bytesA (l2.take (k + 1)) = bytesA (l2.take k) ++ bytesO l2[k] by rw [List.take_succ_eq_append_getElem hlt, bytes_append, bytes_one])
      have hmono := lenB_mono l2 (show k + 1 ≤ l2.length by omega)
      rw [List.take_length] at hmono
      have hmk := lenB_mono l2 (show k ≤ l2.length by omega)
      rw [List.take_length] at hmk
      have HPO := Lib.hid (bytesO_pos hsx)
      have HC1 := Lib.hid (comp_one hsx hrx)
      generalize l2[k] = x at *
      obtain ⟨p, m, t⟩ := x
      dsimp only at e0 e1 e2
      have i0 : (0 : Int) ≤ (k : Int) := by omega
      have i1 : (k : Int) < (l2.length : Int) := by omega
      have bx := below_self_alloc wr (stO ⟨p, m, t⟩)
      obtain ⟨x0, x1, x2⟩ := stO_at wr ⟨p, m, t⟩
      dsimp only at x0 x1 x2
      rw [Nat.zero_add] at x1 x2
      have HGX := Lib.hid ((Kept.new bx (fun _ => False)).old HG.out id)
      have HOX := Lib.hid (HO.out.new bx)
      have HBX := Lib.hid (HB.out.trans (bx.mono hbw))
      have HBGX := Lib.hid (show OwnL encN (wr.alloc (stO ⟨p, m, t⟩)) w.heap.size 3 vb (begS l1) from own_off HBG.out (Kept.new bx (fun _ => False)) (fun _ _ _ _ => id))
      have hbwx := HBX.out.size
      clear hst bx hrx HO HG HB HBG
      by_cases ht : t = []
      · subst ht
        have x2' : (wr.alloc (stO ⟨p, m, []⟩)).cell? ⟨wr.heap.size, 2, none⟩ = some (.string ⟨#[]⟩) := x2
        clear x2
        obtain ⟨a', n', hp', hm', hn', han, hbn, hcb⟩ := HC1.out rfl
        dsimp only at hp' hm'
        subst hp'
        subst hm'
        have HCB := Lib.hid hcb
        have f0 : (wr.alloc (stO ⟨a', n', []⟩)).cell? ⟨p6, 0, none⟩ = some v1 := by rw [cell_of_row _ _ _ _ _ _ HGX.out]; rfl
        have f1 : (wr.alloc (stO ⟨a', n', []⟩)).cell? ⟨p6, 1, none⟩ = some vb := by rw [cell_of_row _ _ _ _ _ _ HGX.out]; rfl
        have hl0 : 0 < l1.length := by
          rcases l1 with _ | ⟨y, l1⟩
          · simp [bytes_nil] at han; omega
          · simp
        obtain ⟨gb, cb, cur, hvb', hgb, hcj⟩ := begs_at HBGX.out hl0
        subst hvb'
        have SA := Lib.hid (srcAdd_any _ w.heap.size v1 _ l1 C gb cb a' n' _ (HR1.out.below HBX.out (fun _ h => h)) (fun _ h => h) HS1.out n1 b1 han hn' hcj (own_ty HOX.out hgb (by decide)) HOX.out (by omega) hbwx)
        clear hcb HC1 hcj hgb
        go_wp2_with fail
        refine SA.out.mono ?_
        rintro e w5 ⟨v', rfl, D, hoD, htD, hbD, hsD, hlD⟩
        have HGD := Lib.hid (src_turn HGX.out htD HOX.out)
        have HBGD := Lib.hid (OwnL.turn HBGX.out htD HOX.out)
        have HBD := Lib.hid (HBX.out.trans htD.bel)
        have HOD := Lib.hid hoD
        have HBY := Lib.hid (show bytesA (C ++ D) = compB (bytesA l1) (bytesA (l2.take (k + 1))) by rw [bytes_append, hbD, HBC.out, NB.out, comp_append, HCB.out])
        have HSD := Lib.hid (show ∀ c ∈ C ++ D, stS c = true from fun c hc => (List.mem_append.1 hc).elim (HCS.out c) (hsD c))
        have HLD := Lib.hid (show (C ++ D).length ≤ lenB (l2.take (k + 1)) by rw [List.length_append, NX.out]; omega)
        clear htD hoD hbD hsD SA x0 x1 x2' f0 f1
        go_wp2_with fail
        go_roundw
        case rel => exact ⟨k + 1, C ++ D, by omega, by go_num, HOD.out, HBGD.out, HGD.out, HBY, HSD.out, HLD.out, HBD.out⟩
        case measure => simp [intOf]; omega
      · have hne : t.isEmpty = false := by cases t <;> simp_all
        have hlc : C.length ≤ 2000000 := by omega
        have HCT := Lib.hid (show compB (bytesA l1) (bytesO ⟨p, m, t⟩) = bytesO ⟨p, m, t⟩ by
          have e : bytesO ⟨p, m, t⟩ = toldC t := by unfold bytesO; rw [if_pos ht]
          rw [e, comp_told])
        generalize hwx : wr.alloc (stO ⟨p, m, t⟩) = wx at *
        go_upto_region 7 with fail
        clear hwx
        go_wp2_with (at_builtin; refine append_st (w := wx) (by rfl) (.tmp 20) (.tmp 22) 32 _ (by rfl) Tryz.underlying32 info_step (by rfl) w.heap.size _ C ⟨p, m, t⟩ (by rfl) HOX.out (by rfl) hlc hbwx ?_; intro v' w3 hown3 htn3; have HOD := Lib.hid hown3; have HGD := Lib.hid (src_turn HGX.out htn3 HOX.out); have HBGD := Lib.hid (OwnL.turn HBGX.out htn3 HOX.out); have HBD := Lib.hid (HBX.out.trans htn3.bel); clear hown3 htn3)
        go_roundw
        case rel =>
          refine ⟨k + 1, C ++ [⟨p, m, t⟩], by omega, by go_num, HOD.out, HBGD.out, HGD.out, Lib.hid ?_, ?_, ?_, HBD.out⟩
          · rw [bytes_append, HBC.out, NB.out, comp_append, HCT.out, bytes_one]
          · exact fun y hy => (List.mem_append.1 hy).elim (HCS.out y) (fun h => by rw [List.mem_singleton.1 h]; exact hsx)
          · rw [List.length_append, List.length_singleton, NX.out]
            have := HPO.out
            omega
        case measure => simp [intOf]; omega
    · obtain rfl : k = l2.length := by omega
      have i1 : ¬ (l2.length : Int) < (l2.length : Int) := by omega
      rw [List.take_length] at HBC hcl
      go_wp2_with fail
      go_ret
      exact ⟨_, rfl, C, HO.out, HBC.out, HCS.out, hcl, HB.out⟩
end Go.Proofs.YtpkgjokehgihjaaGreat
/- The walk of chain's Compose. -/
set_option linter.unusedVariables false
namespace Go.Proofs.YtpkgjokehgihjaaGreat
open Go.RowKit

/-- A delta as data. -/
structure DD where
  bm : Txt
  mm : Txt
  n : Int
  l : List DSt
abbrev DD.v (d : DD) (c : Value) : Value := delW d.bm d.mm d.n c
abbrev DD.o (d : DD) (c : Value) : Obj := delO d.bm d.mm d.n c
abbrev DD.right (d : DD) : Bool := rightD d.bm d.mm d.n d.l
def ddZ : DD := ⟨[], [], 0, []⟩
structure DD.Ok (d : DD) : Prop where
  st : ∀ x ∈ d.l, StOk x
  len : d.l.length ≤ 1000000
  b : d.bm.length ≤ 140737488351232
  m : d.mm.length ≤ 140737488351232
  n1 : -9223372036854775808 ≤ d.n
  n2 : d.n ≤ 9223372036854775807
/-- What Compose tells. -/
def compR (a b : DD) : DD × Int :=
  if a.right = false ∨ b.right = false then (ddZ, 1)
  else if a.mm ≠ b.bm then (ddZ, 13)
  else if ¬ reachS b.l ≤ a.n then (ddZ, 2)
  else (⟨a.bm, b.mm, b.n, stepsB (compB (bytesA a.l) (bytesA b.l))⟩, 0)
theorem right_st {bm mm : Txt} {n : Int} {l : List DSt} (h : rightD bm mm n l = true) : ∀ x ∈ l, stS x = true := by
  unfold rightD at h
  simp only [Bool.and_eq_true, decide_eq_true_eq, List.all_eq_true] at h
  exact h.1.2
theorem len_le (l : List DSt) (h : ∀ x ∈ l, stS x = true) : l.length ≤ lenB l := by
  induction l with
  | nil => simp
  | cons x l ih =>
    have h1 := ih (fun y hy => h y (by simp [hy]))
    have h2 := bytesO_pos (h x (by simp))
    unfold lenB at h1 ⊢
    rw [bytes_cons, List.length_append, List.length_cons]; omega
theorem wt_le (l : List DSt) (h : ∀ x ∈ l, stS x = true) : wtA l ≤ lenB l := by
  induction l with
  | nil => simp [wtA]
  | cons x l ih =>
    have h1 := ih (fun y hy => h y (by simp [hy]))
    have h2 : wtS x ≤ (bytesO x).length := by
      have h3 := h x (by simp)
      unfold stS at h3
      unfold wtS bytesO
      split at h3
      · rename_i c
        have h4 := of_decide_eq_true h3
        rw [if_pos c, told_len]; omega
      · rename_i c
        have h4 := of_decide_eq_true h3
        have h5 : x.txt = [] := by simpa using c
        rw [if_neg c, places_len, h5, List.length_nil]; omega
    have h5 : wtA (x :: l) = wtS x + wtA l := by simp [wtA]
    have h6 : lenB (x :: l) = (bytesO x).length + lenB l := by unfold lenB; rw [bytes_cons, List.length_append]
    omega
/-- The three boxes of a call. -/
structure CmpB (w : World) (a b : DD) (v1 v2 : Value) (wr : World) : Prop where
  xa : wr.heap[w.heap.size]? = some (a.o v1)
  xb : wr.heap[w.heap.size + 1]? = some (b.o v2)
  xr : wr.heap[w.heap.size + 1 + 1]? = some (delO [] [] 0 (.slice none 0 0))
  bel : Below w.heap.size w wr
theorem CmpB.new {w wr wr' : World} {a b : DD} {v1 v2 : Value} (h : CmpB w a b v1 v2 wr) (hb : Below wr.heap.size wr wr') : CmpB w a b v1 v2 wr' :=
  ⟨old_of hb h.xa, old_of hb h.xb, old_of hb h.xr, h.bel.trans (hb.mono h.bel.size)⟩

set_option maxRecDepth 100000 in
set_option maxHeartbeats 1000000 in
theorem compose_any (N M : Nat → Prop) (a b : DD) (v1 v2 : Value) (w : World) (h1 : RowS N w v1 a.l) (h2 : RowS M w v2 b.l) (ha : a.Ok) (hb : b.Ok) :
    Calls Tryz.prog 16 #[a.v v1, b.v v2] w fun e w' => ∃ v', e = .returned (.tuple #[(compR a b).1.v v', .int .i64 (compR a b).2]) ∧ OwnS w' w.heap.size v' (compR a b).1.l ∧ Below w.heap.size w w' := by
  have HCR := Lib.hid (show compR a b = if a.right = false ∨ b.right = false then (ddZ, 1) else if a.mm ≠ b.bm then (ddZ, 13) else if ¬ reachS b.l ≤ a.n then (ddZ, 2) else (⟨a.bm, b.mm, b.n, stepsB (compB (bytesA a.l) (bytesA b.l))⟩, 0) from rfl)
  generalize compR a b = res at *
  have RT1 := fun w' (hb' : Below w.heap.size w w') => Lib.hid (rightD_any N a.bm a.mm a.n v1 a.l w' (h1.keep hb') ha.st ha.len ha.b ha.m ha.n1 ha.n2)
  have RT2 := fun w' (hb' : Below w.heap.size w w') => Lib.hid (rightD_any M b.bm b.mm b.n v2 b.l w' (h2.keep hb') hb.st hb.len hb.b hb.m hb.n1 hb.n2)
  have HH1 := Lib.hid h1
  have HH2 := Lib.hid h2
  have HAO := Lib.hid ha
  have HBO := Lib.hid hb
  have HRA := Lib.hid (show a.right = true → _ from fun e => right_good e)
  have HRB := Lib.hid (show b.right = true → _ from fun e => right_good e)
  have HC0 : CmpB w a b v1 v2 (((w.alloc (a.o v1)).alloc (b.o v2)).alloc (delO [] [] 0 (.slice none 0 0))) := by
    have b1 := below_self_alloc w (a.o v1)
    have b2 := below_self_alloc (w.alloc (a.o v1)) (b.o v2)
    have b3 := below_self_alloc ((w.alloc (a.o v1)).alloc (b.o v2)) (delO [] [] 0 (.slice none 0 0))
    have g2 := heap_alloc_new (w.alloc (a.o v1)) (b.o v2)
    have g3 := heap_alloc_new ((w.alloc (a.o v1)).alloc (b.o v2)) (delO [] [] 0 (.slice none 0 0))
    rw [show (w.alloc (a.o v1)).heap.size = w.heap.size + 1 by simp] at g2
    rw [show ((w.alloc (a.o v1)).alloc (b.o v2)).heap.size = w.heap.size + 1 + 1 by simp] at g3
    exact ⟨old_of b3 (old_of b2 (heap_alloc_new w (a.o v1))), old_of b3 g2, g3, b1.trans ((b2.trans (b3.mono b2.size)).mono b1.size)⟩
  have C0 := Lib.hid HC0
  obtain ⟨ca, k1, rfl⟩ := h1.slice
  obtain ⟨cb, k2, rfl⟩ := h2.slice
  clear h1 h2 ha hb HC0
  obtain ⟨bm1, mm1, n1, l1⟩ := a
  obtain ⟨bm2, mm2, n2, l2⟩ := b
  dsimp only [DD.v, DD.o, DD.right] at *
  go_enter Tryz.func16, Tryz.ntmps16
  go_upto_region 1 with fail
  generalize ((w.alloc (.cells #[.string ⟨bm1.toArray⟩, .string ⟨mm1.toArray⟩, .int .i64 n1, .slice ca l1.length k1] 34)).alloc (.cells #[.string ⟨bm2.toArray⟩, .string ⟨mm2.toArray⟩, .int .i64 n2, .slice cb l2.length k2] 34)).alloc (.cells #[.string ⟨#[]⟩, .string ⟨#[]⟩, .int .i64 0, .slice none 0 0] 34) = w1 at *
  obtain ⟨a0, a1, a2, a3⟩ := delO_cells C0.out.xa
  go_wp2_with fail
  refine (RT1 _ C0.out.bel).out.mono ?_
  rintro e w2 ⟨rfl, hb2⟩
  have C2 := Lib.hid (C0.out.new hb2)
  clear C0 hb2 RT1 a0 a1 a2 a3
  by_cases hrr : rightD bm1 mm1 n1 l1 = false ∨ rightD bm2 mm2 n2 l2 = false
  · have HR := Lib.hid (show res = (ddZ, 1) by rw [HCR.out, if_pos hrr])
    cases hr1 : rightD bm1 mm1 n1 l1 with
    | false =>
      obtain ⟨⟨S0, S0f⟩, ⟨S1, S1f⟩, ⟨S2, S2f⟩, ⟨S3, S3f⟩, s4', s5'⟩ := four_store C2.out.xr (.string ⟨#[]⟩) (.string ⟨#[]⟩) (.int .i64 0) (.slice none 0 0)
      have S4 := Lib.hid s4'
      have HB := Lib.hid (C2.out.bel.trans (s5'.below C2.out.bel.size (fun k e => by omega)))
      clear s4' s5' C2 RT2
      go_wp2_with fail
      refine bodyPost_ret (v := .tuple #[ddZ.v (.slice none 0 0), .int .i64 1]) (results_row_tmp Tryz.results16 _ _ (w.heap.size + 1 + 1) _ _ _ _ rfl S4.out Tryz.underlying34 rfl del_info) rfl ?_
      rw [HR.out]
      exact ⟨_, rfl, OwnS.nil _ _, HB.out⟩
    | true =>
      obtain ⟨b0, b1, b2, b3⟩ := delO_cells C2.out.xb
      go_wp2_with fail
      refine (RT2 _ C2.out.bel).out.mono ?_
      rintro e w3 ⟨rfl, hb3⟩
      have C3 := Lib.hid (C2.out.new hb3)
      have hr2 : rightD bm2 mm2 n2 l2 = false := hrr.resolve_left (by simp [hr1])
      obtain ⟨⟨S0, S0f⟩, ⟨S1, S1f⟩, ⟨S2, S2f⟩, ⟨S3, S3f⟩, s4', s5'⟩ := four_store C3.out.xr (.string ⟨#[]⟩) (.string ⟨#[]⟩) (.int .i64 0) (.slice none 0 0)
      have S4 := Lib.hid s4'
      have HB := Lib.hid (C3.out.bel.trans (s5'.below C3.out.bel.size (fun k e => by omega)))
      clear s4' s5' C2 C3 RT2 hb3 b0 b1 b2 b3
      go_wp2_with fail
      refine bodyPost_ret (v := .tuple #[ddZ.v (.slice none 0 0), .int .i64 1]) (results_row_tmp Tryz.results16 _ _ (w.heap.size + 1 + 1) _ _ _ _ rfl S4.out Tryz.underlying34 rfl del_info) rfl ?_
      rw [HR.out]
      exact ⟨_, rfl, OwnS.nil _ _, HB.out⟩
  have hr1 : rightD bm1 mm1 n1 l1 = true := by
    cases h : rightD bm1 mm1 n1 l1 with
    | false => exact absurd (.inl h) hrr
    | true => rfl
  have hr2 : rightD bm2 mm2 n2 l2 = true := by
    cases h : rightD bm2 mm2 n2 l2 with
    | false => exact absurd (.inr h) hrr
    | true => rfl
  rw [if_neg hrr] at HCR
  have G1 := Lib.hid (HRA.out hr1)
  have G2 := Lib.hid (HRB.out hr2)
  have ST1 := Lib.hid (right_st hr1)
  have ST2 := Lib.hid (right_st hr2)
  clear HRA HRB hrr
  obtain ⟨b0, b1, b2, b3⟩ := delO_cells C2.out.xb
  go_wp2_with fail
  refine (RT2 _ C2.out.bel).out.mono ?_
  rintro e w3 ⟨rfl, hb3⟩
  have C3 := Lib.hid (C2.out.new hb3)
  clear C2 hb3 RT2 b0 b1 b2 b3
  obtain ⟨a0, a1, a2, a3⟩ := delO_cells C3.out.xa
  obtain ⟨b0, b1, b2, b3⟩ := delO_cells C3.out.xb
  by_cases hm : mm1 = bm2
  · have q1 : (mm1 == bm2) = true := by simp [hm]
    have q2 : (mm1 != bm2) = false := by simp [hm]
    rw [if_neg (fun h => h hm)] at HCR
    clear a0 a1 a3 b0 b1 b2
    obtain ⟨a0, a1, a2, a3⟩ := delO_cells C3.out.xa
    obtain ⟨b0, b1, b2, b3⟩ := delO_cells C3.out.xb
    go_upto_region 5 with fail
    have F2 := below_cell a2
    have F3 := below_cell b3
    have Q1 := Lib.hid (fun P : BelowOf w3 => reach_any M (.slice cb l2.length k2) l2 P.w (HH2.out.keep (C3.out.bel.trans (P.h.mono C3.out.bel.size))) ST2.out HBO.out.len)
    have HRI := Lib.hid (reach_iff (bytesA l1).length l2 ST2.out)
    have HRB := Lib.hid (reach_bound l2 ST2.out l2.length (Nat.le_refl _))
    generalize hrs : reachS l2 = r at *
    clear a0 a1 a2 a3 b0 b1 b2 b3
    refine wp_region_below (by kernel_rfl) (by kernel_rfl) ?_
    repeat (go_big_quiet_step ((go_at_call 28; with_reducible exact below_calls (Q1.out _))))
    refine wpQuiet_nil ?_
    rintro w4 ⟨⟨w4b, hb4⟩, hw4⟩
    have hw4b : w4 = w4b := hw4
    clear hw4
    subst hw4b
    have C4 := Lib.hid (C3.out.new hb4)
    clear F2 F3 Q1 hb4 C3
    by_cases hre : r ≤ n1
    · have i1 : ¬ n1 < r := by omega
      have HR := Lib.hid (show res = (⟨bm1, mm2, n2, stepsB (compB (bytesA l1) (bytesA l2))⟩, 0) by rw [HCR.out, if_neg (by omega)])
      have LB2 := Lib.hid (show lenB l2 ≤ 524288 from G2.out.2.2.1)
      have LBM := Lib.hid (And.intro G1.out.2.2.2.1 G2.out.2.2.2.2)
      have TH := fun w' (hb : Below w4.heap.size w4 w') => Lib.hid (through_any N M (.slice ca l1.length k1) (.slice cb l2.length k2) l1 l2 w' (HH1.out.keep (C4.out.bel.trans (hb.mono C4.out.bel.size))) (HH2.out.keep (C4.out.bel.trans (hb.mono C4.out.bel.size))) ST1.out ST2.out HAO.out.len HBO.out.len (Nat.le_trans G1.out.2.2.1 (by omega)) (Nat.le_trans G2.out.2.2.1 (by omega)) (HRI.out.1 (by have := G1.out.2.1; omega)))
      clear HRI HRB HCR G1 G2 ST1 ST2 HAO HBO HH1 HH2 hre
      go_upto_region 7 with fail
      have bdr : Below w4.heap.size w4 w4.drew := Below_drew (Below.refl _ _)
      have C5 := Lib.hid (C4.out.new bdr)
      have TH5 := Lib.hid (TH _ bdr).out
      obtain ⟨a0, a1, a2, a3⟩ := delO_cells C5.out.xa
      obtain ⟨b0, b1, b2, b3⟩ := delO_cells C5.out.xb
      clear a1 a2 b0 C4 bdr TH
      go_region_held3 (fun w' => w'.cell? ⟨w.heap.size, 0, none⟩ = some (.string ⟨bm1.toArray⟩) ∧ w'.cell? ⟨w.heap.size + 1, 1, none⟩ = some (.string ⟨mm2.toArray⟩) ∧ w'.cell? ⟨w.heap.size + 1, 2, none⟩ = some (.int .i64 n2) ∧ w'.cell? ⟨w.heap.size, 3, none⟩ = some (.slice ca l1.length k1) ∧ w'.cell? ⟨w.heap.size + 1, 3, none⟩ = some (.slice cb l2.length k2))
        (first | with_reducible exact ⟨by assumption, by assumption, by assumption, by assumption, by assumption⟩ | go_keep)
        (first
          | (go_at_call 29; go_split_ands; refine TH5.out.mono ?_; rintro e wA ⟨vt, rfl, C, hoC, hbC, hsC, hlC, bC⟩; obtain ⟨vta, vtm, vtc, rfl⟩ := own_slice hoC; have CA := Lib.hid (C5.out.new bC); obtain ⟨c0, c1, c2, c3⟩ := delO_cells CA.out.xa; obtain ⟨d0, d1, d2, d3⟩ := delO_cells CA.out.xb; have HOC := Lib.hid hoC; have HBC := Lib.hid hbC; have HSC := Lib.hid hsC; have HLC := Lib.hid hlC; clear c1 c2 d0 hoC hbC hsC hlC bC)
          | (go_at_call 15; go_split_ands; refine (tidied_any _ bm1 mm2 n2 (.slice vta vtm vtc) C wA HOC.out.row (fun x hx => stok_of (HSC.out x hx)) (by have := HLC.out; have := LB2.out; omega) (by have h1 := wt_le C HSC.out; have h2 : lenB C = lenB l2 := (by unfold lenB; rw [HBC.out, comp_len]); have := LB2.out; omega) (by have := LBM.out.1; omega) (by have := LBM.out.2; omega)).mono ?_; rintro e wB ⟨v', rfl, hoT, bT⟩; obtain ⟨vxa, vxm, vxc, rfl⟩ := own_slice hoT; have cB := CA.out.new bT; obtain ⟨⟨S0, S0f⟩, ⟨S1, S1f⟩, ⟨S2, S2f⟩, ⟨S3, S3f⟩, s4', s5'⟩ := four_store cB.xr (.string ⟨bm1.toArray⟩) (.string ⟨mm2.toArray⟩) (.int .i64 n2) (.slice vxa vxm vxc); have S4 := Lib.hid s4'; have HF := Lib.hid (cB.bel.trans (s5'.below cB.bel.size (fun k e => by omega))); have xa' := s5'.old cB.xa (by omega); have xb' := s5'.old cB.xb (by omega); obtain ⟨m0, m1, m2, m3⟩ := delO_cells xa'; obtain ⟨p0, p1, p2, p3⟩ := delO_cells xb'; obtain ⟨n0', n1', n2', n3'⟩ := delO_cells cB.xa; obtain ⟨r0', r1', r2', r3'⟩ := delO_cells cB.xb; have HO := Lib.hid ((hoT.kept s5' (fun g hg e => own_ne hoT cB.xr (by decide) (e ▸ hg))).mono CA.out.bel.size); clear s4' s5' hoT bT cB xa' xb'))
      all_goals
        go_wp2_with fail
        refine bodyPost_ret (v := .tuple #[delW bm1 mm2 n2 (.slice vxa vxm vxc), .int .i64 0]) (results_row_tmp Tryz.results16 _ _ (w.heap.size + 1 + 1) _ _ _ _ rfl S4.out Tryz.underlying34 rfl del_info) rfl ?_
        rw [HR.out, ← HBC.out, ← tidy_bytes]
        exact ⟨_, rfl, HO.out, HF.out⟩
    · have i1 : n1 < r := by omega
      have HR := Lib.hid (show res = (ddZ, 2) by rw [HCR.out, if_pos (by omega)])
      obtain ⟨⟨S0, S0f⟩, ⟨S1, S1f⟩, ⟨S2, S2f⟩, ⟨S3, S3f⟩, s4', s5'⟩ := four_store C4.out.xr (.string ⟨#[]⟩) (.string ⟨#[]⟩) (.int .i64 0) (.slice none 0 0)
      have S4 := Lib.hid s4'
      have HB := Lib.hid (C4.out.bel.trans (s5'.below C4.out.bel.size (fun k e => by omega)))
      clear s4' s5' C4
      go_wp2_with fail
      refine bodyPost_ret (v := .tuple #[ddZ.v (.slice none 0 0), .int .i64 2]) (results_row_tmp Tryz.results16 _ _ (w.heap.size + 1 + 1) _ _ _ _ rfl S4.out Tryz.underlying34 rfl del_info) rfl ?_
      rw [HR.out]
      exact ⟨_, rfl, OwnS.nil _ _, HB.out⟩
  · have q1 : (mm1 == bm2) = false := by simp [hm]
    have q2 : (mm1 != bm2) = true := by simp [hm]
    have HR := Lib.hid (show res = (ddZ, 13) by rw [HCR.out, if_pos hm])
    obtain ⟨⟨S0, S0f⟩, ⟨S1, S1f⟩, ⟨S2, S2f⟩, ⟨S3, S3f⟩, s4', s5'⟩ := four_store C3.out.xr (.string ⟨#[]⟩) (.string ⟨#[]⟩) (.int .i64 0) (.slice none 0 0)
    have S4 := Lib.hid s4'
    have HB := Lib.hid (C3.out.bel.trans (s5'.below C3.out.bel.size (fun k e => by omega)))
    clear s4' s5' C3
    go_wp2_with fail
    refine bodyPost_ret (v := .tuple #[ddZ.v (.slice none 0 0), .int .i64 13]) (results_row_tmp Tryz.results16 _ _ (w.heap.size + 1 + 1) _ _ _ _ rfl S4.out Tryz.underlying34 rfl del_info) rfl ?_
    rw [HR.out]
    exact ⟨_, rfl, OwnS.nil _ _, HB.out⟩
end Go.Proofs.YtpkgjokehgihjaaGreat
/- The walk of chain's Fold. -/
set_option linter.unusedVariables false
namespace Go.Proofs.YtpkgjokehgihjaaGreat
open Go.RowKit

/-! ### What Fold tells -/
def tidR (d : DD) : DD := ⟨d.bm, d.mm, d.n, stepsB (bytesA d.l)⟩
def foldG : DD → List DD → DD × Int
  | d, [] => (d, 0)
  | d, x :: xs => if (compR d x).2 ≠ 0 then (ddZ, (compR d x).2) else foldG (compR d x).1 xs
def foldR : List DD → DD × Int
  | [] => (ddZ, 1)
  | d :: ds => if d.right = false then (ddZ, 1) else foldG (tidR d) ds
theorem ok_right {d : DD} (h : d.right = true) : d.Ok := by
  obtain ⟨h1, h2, h3, h4, h5⟩ := right_good h
  have hs := right_st h
  have hl := len_le d.l hs
  unfold lenB at hl
  exact ⟨fun x hx => stok_of (hs x hx), by omega, by omega, by omega, by omega, by omega⟩
theorem right_of {bm mm : Txt} {B : List BT} {n : Int} (h1 : bm.length = 32) (h2 : mm.length = 32) (hr : InR B 524288) (hl : B.length ≤ 524288) (hn : n = (B.length : Int)) : rightD bm mm n (stepsB B) = true := by
  rw [hn]; exact steps_right h1 h2 hr hl
theorem tid_right {d : DD} (h : d.right = true) : (tidR d).right = true := by
  obtain ⟨h1, h2, h3, h4, h5⟩ := right_good h
  exact right_of h4 h5 (inR_good h1) h3 h2
theorem comp_right {a b : DD} (h : (compR a b).2 = 0) : (compR a b).1.right = true := by
  unfold compR at h ⊢
  split at h
  · simp at h
  rename_i c1
  rw [if_neg c1]
  split at h
  · simp at h
  rename_i c2
  rw [if_neg c2]
  split at h
  · simp at h
  rename_i c3
  rw [if_neg c3]
  have ra : a.right = true := by cases e : a.right with
    | false => exact absurd (.inl e) c1
    | true => rfl
  have rb : b.right = true := by cases e : b.right with
    | false => exact absurd (.inr e) c1
    | true => rfl
  obtain ⟨h1, h2, h3, h4, h5⟩ := right_good ra
  obtain ⟨k1, k2, k3, k4, k5⟩ := right_good rb
  have hr : InR (bytesA b.l) (bytesA a.l).length := (reach_iff _ b.l (right_st rb)).1 (by omega)
  exact right_of h4 k5 (comp_inR (inR_good h1) hr) (by rw [comp_len]; omega) (by rw [comp_len]; omega)
/-! ### A list of deltas, readable -/
structure DAt (w : World) (g o : Nat) (d : DD) (c : Value) : Prop where
  c0 : w.cell? ⟨g, o, none⟩ = some (.string ⟨d.bm.toArray⟩)
  c1 : w.cell? ⟨g, o + 1, none⟩ = some (.string ⟨d.mm.toArray⟩)
  c2 : w.cell? ⟨g, o + 2, none⟩ = some (.int .i64 d.n)
  c3 : w.cell? ⟨g, o + 3, none⟩ = some c
theorem DAt.new {w w' : World} {g o : Nat} {d : DD} {c : Value} (h : DAt w g o d c) (hb : Below w.heap.size w w') : DAt w' g o d c :=
  ⟨(hb.cell (World.block_lt_of_cell? _ _ h.c0)).trans h.c0, (hb.cell (World.block_lt_of_cell? _ _ h.c1)).trans h.c1, (hb.cell (World.block_lt_of_cell? _ _ h.c2)).trans h.c2, (hb.cell (World.block_lt_of_cell? _ _ h.c3)).trans h.c3⟩
def RowD (w : World) (v : Value) (ds : List DD) : Prop :=
  ∃ a c, v = .slice a ds.length c ∧ ds.length ≤ c ∧ ∀ i (h : i < ds.length), ∃ g o vi, a = some ⟨g, o, none⟩ ∧ DAt w g (o + i * 4) ds[i] vi ∧ RowS (fun _ => True) w vi ds[i].l
theorem RowD.keep {w w' : World} {v : Value} {ds : List DD} (h : RowD w v ds) (hb : Below w.heap.size w w') : RowD w' v ds := by
  obtain ⟨a, c, rfl, hc, h⟩ := h
  refine ⟨a, c, rfl, hc, fun i hi => ?_⟩
  obtain ⟨g, o, vi, rfl, h1, h2⟩ := h i hi
  exact ⟨g, o, vi, rfl, h1.new hb, h2.keep hb⟩

set_option maxRecDepth 100000 in
set_option maxHeartbeats 1000000 in
theorem fold_any (v : Value) (ds : List DD) (w : World) (h : RowD w v ds) (hok : ∀ d ∈ ds, d.Ok) (hl : ds.length ≤ 1000000) :
    Calls Tryz.prog 9 #[v] w fun e w' => ∃ v', e = .returned (.tuple #[(foldR ds).1.v v', .int .i64 (foldR ds).2]) ∧ OwnS w' w.heap.size v' (foldR ds).1.l ∧ Below w.heap.size w w' := by
  obtain ⟨a, c, rfl, hlc, hd⟩ := h
  have B0 := Lib.hid (below_self_alloc w (delO [] [] 0 (.slice none 0 0)))
  have X0 := Lib.hid (heap_alloc_new w (delO [] [] 0 (.slice none 0 0)))
  rcases ds with _ | ⟨d0, ds⟩
  · go_enter Tryz.func9, Tryz.ntmps9
    go_wp2_with fail
    refine bodyPost_ret (v := .tuple #[ddZ.v (.slice none 0 0), .int .i64 1]) (results_row_tmp Tryz.results9 _ _ w.heap.size _ _ _ _ rfl X0.out Tryz.underlying34 rfl del_info) rfl ?_
    exact ⟨_, rfl, OwnS.nil _ _, B0.out⟩
  · have hd0 := hd 0 (by simp)
    obtain ⟨g, o, v0, rfl, hc0, hr0⟩ := hd0
    have HD := Lib.hid hd
    have HOK := Lib.hid hok
    have ok0 : d0.Ok := hok d0 (by simp)
    obtain ⟨e0, e1, e2, e3⟩ := hc0.new B0.out
    have hr0' := hr0.keep B0.out
    have RT := Lib.hid (rightD_any _ d0.bm d0.mm d0.n v0 d0.l (w.alloc (delO [] [] 0 (.slice none 0 0))) hr0' ok0.st ok0.len ok0.b ok0.m ok0.n1 ok0.n2)
    have HRD := Lib.hid (show (foldR (d0 :: ds)) = if d0.right = false then (ddZ, 1) else foldG (tidR d0) ds from rfl)
    generalize foldR (d0 :: ds) = res at *
    obtain ⟨va0, vc0, hv0⟩ := hr0.slice
    subst hv0
    simp only [List.length_cons, List.getElem_cons_zero, Nat.zero_mul, Nat.add_zero] at e0 e1 e2 e3 hlc hl ⊢
    have z0 : ((ds.length : Int) + 1 == 0) = false := by simp; omega
    have i1 : (0 : Int) < (ds.length : Int) + 1 := by omega
    clear hd hok hc0
    obtain ⟨bm0, mm0, n0, l0⟩ := d0
    dsimp only [DD.v, DD.o, DD.right] at *
    go_enter Tryz.func9, Tryz.ntmps9
    go_wp2_with fail
    refine RT.out.mono ?_
    rintro e w2 ⟨rfl, hb2⟩
    have X2 := Lib.hid (old_of hb2 X0.out)
    have B2 := Lib.hid (B0.out.trans (hb2.mono B0.out.size))
    have hr2 := hr0'.keep hb2
    obtain ⟨f0, f1, f2, f3⟩ := (show DAt w2 g o ⟨bm0, mm0, n0, l0⟩ (.slice va0 l0.length vc0) from ⟨(hb2.cell (World.block_lt_of_cell? _ _ e0)).trans e0, (hb2.cell (World.block_lt_of_cell? _ _ e1)).trans e1, (hb2.cell (World.block_lt_of_cell? _ _ e2)).trans e2, (hb2.cell (World.block_lt_of_cell? _ _ e3)).trans e3⟩)
    dsimp only at f0 f1 f2 f3
    have TI := Lib.hid (tidied_any _ bm0 mm0 n0 (.slice va0 l0.length vc0) l0 w2 hr2 ok0.st ok0.len)
    clear hr0' hr2 e0 e1 e2 e3 X0 B0 RT
    cases hrr : rightD bm0 mm0 n0 l0 with
    | false =>
      have HR := Lib.hid (show res = (ddZ, 1) by rw [HRD.out]; exact if_pos hrr)
      obtain ⟨⟨S0, S0f⟩, ⟨S1, S1f⟩, ⟨S2, S2f⟩, ⟨S3, S3f⟩, s4', s5'⟩ := four_store X2.out (.string ⟨#[]⟩) (.string ⟨#[]⟩) (.int .i64 0) (.slice none 0 0)
      have S4 := Lib.hid s4'
      have HB := Lib.hid (B2.out.trans (s5'.below B2.out.size (fun k e => by omega)))
      clear s4' s5' TI X2 B2 hb2
      go_wp2_with fail
      refine bodyPost_ret (v := .tuple #[ddZ.v (.slice none 0 0), .int .i64 1]) (results_row_tmp Tryz.results9 _ _ w.heap.size _ _ _ _ rfl S4.out Tryz.underlying34 rfl del_info) rfl ?_
      rw [HR.out]
      exact ⟨_, rfl, OwnS.nil _ _, HB.out⟩
    | true =>
      have HR := Lib.hid (show res = foldG (tidR ⟨bm0, mm0, n0, l0⟩) ds by rw [HRD.out]; exact if_neg (by simp [hrr]))
      have HRT := Lib.hid (tid_right (d := ⟨bm0, mm0, n0, l0⟩) hrr)
      obtain ⟨g1, g2, g3, g4, g5⟩ := right_good hrr
      have hw0 := wt_le l0 (right_st hrr)
      unfold lenB at hw0
      have TI2 := Lib.hid (TI.out (by omega) (by omega) (by omega))
      clear TI HRD g1 g2 g3 g4 g5 hw0 ok0
      go_wp2_with fail
      refine TI2.out.mono ?_
      rintro e w3 ⟨vt, rfl, hot, hb3⟩
      obtain ⟨vta, vtm, vtc, rfl⟩ := own_slice hot
      have bx := below_self_alloc w3 (delO bm0 mm0 n0 (.slice vta vtm vtc))
      have HO4 := Lib.hid ((hot.new bx).mono B2.out.size)
      have X4 := Lib.hid (old_of bx (old_of hb3 X2.out))
      have D4 := Lib.hid (heap_alloc_new w3 (delO bm0 mm0 n0 (.slice vta vtm vtc)))
      have B4 := Lib.hid (B2.out.trans ((hb3.trans (bx.mono hb3.size)).mono B2.out.size))
      have HPW := Lib.hid (show w.heap.size < w3.heap.size from Nat.lt_of_lt_of_le (Array.getElem?_eq_some_iff.1 X2.out).1 hb3.size)
      have HDD := fun w' (hb : Below w.heap.size w w') i hi => Lib.hid (show ∃ vi, DAt w' g (o + (i + 1) * 4) (ds[i]'hi) vi ∧ RowS (fun _ => True) w' vi (ds[i]'hi).l by
        obtain ⟨g', o', vi, he, hx1, hx2⟩ := HD.out (i + 1) (by simp; omega)
        injection he with he
        injection he with he1 he2
        subst he1
        subst he2
        exact ⟨vi, hx1.new hb, hx2.keep hb⟩)
      have HOK2 := Lib.hid (fun i (hi : i < ds.length) => HOK.out ds[i] (by simp))
      clear bx hot hb3 hb2 X2 B2 TI2 hr0 HD HOK f0 f1 f2 f3
      go_wp2_with fail
      · obtain rfl : ds = [] := List.eq_nil_of_length_eq_zero (by omega)
        obtain ⟨⟨S0, S0f⟩, ⟨S1, S1f⟩, ⟨S2, S2f⟩, ⟨S3, S3f⟩, s4', s5'⟩ := four_store X4.out (.string ⟨bm0.toArray⟩) (.string ⟨mm0.toArray⟩) (.int .i64 n0) (.slice vta vtm vtc)
        obtain ⟨y0, y1, y2, y3⟩ := delO_cells D4.out
        have S4 := Lib.hid s4'
        have HBF := Lib.hid (B4.out.trans (s5'.below B4.out.size (fun k e => by omega)))
        have HOF := Lib.hid (HO4.out.kept s5' (fun g hg e => own_ne HO4.out X4.out (by decide) (e ▸ hg)))
        clear s4' s5'
        generalize hp : w3.heap.size = p4 at *
        generalize w3.alloc (.cells #[.string ⟨bm0.toArray⟩, .string ⟨mm0.toArray⟩, .int .i64 n0, .slice vta vtm vtc] 34) = w4 at *
        go_loopw [26] (fun i wr => i = .int .i64 0 ∧ wr = w4) (fun i _ => 0)
        case atStart => exact ⟨rfl, rfl⟩
        case round =>
          obtain ⟨rfl, rfl⟩ := hrel
          go_wp2_with fail
          refine bodyPost_ret (v := .tuple #[delW bm0 mm0 n0 (.slice vta vtm vtc), .int .i64 0]) (results_row_tmp Tryz.results9 _ _ w.heap.size _ _ _ _ rfl S4.out Tryz.underlying34 rfl del_info) rfl ?_
          rw [HR.out]
          exact ⟨_, rfl, by rw [tidy_bytes] at HOF; exact HOF.out, HBF.out⟩
      · generalize hp : w3.heap.size = p4 at *
        generalize w3.alloc (.cells #[.string ⟨bm0.toArray⟩, .string ⟨mm0.toArray⟩, .int .i64 n0, .slice vta vtm vtc] 34) = w4 at *
        go_loopw [26] (fun i wr => ∃ (k : Nat) (d : DD) (vd : Value), k ≤ ds.length ∧ i = .int .i64 k ∧ wr.heap[p4]? = some (d.o vd) ∧ wr.heap[w.heap.size]? = some (delO [] [] 0 (.slice none 0 0)) ∧ OwnS wr w.heap.size vd d.l ∧ d.right = true ∧ Hid (foldG d (ds.drop k) = foldG (tidR ⟨bm0, mm0, n0, l0⟩) ds) ∧ Below w.heap.size w wr) (fun i _ => ds.length - (intOf i).toNat)
        case atStart => exact ⟨0, tidR ⟨bm0, mm0, n0, l0⟩, _, by omega, rfl, D4.out, X4.out, by rw [tidy_bytes] at HO4; exact HO4.out, HRT.out, Lib.hid rfl, B4.out⟩
        case round =>
          obtain ⟨k, d, vd, hk, rfl, hg4, hg0, hown, hdr, HF, hbel⟩ := hrel
          have HG4 := Lib.hid hg4
          have HG0 := Lib.hid hg0
          have HO := Lib.hid hown
          have HB := Lib.hid hbel
          clear hg0 hown hbel
          obtain ⟨y0, y1, y2, y3⟩ := delO_cells hg4
          obtain ⟨bmd, mmd, nd, ld⟩ := d
          dsimp only at y0 y1 y2 y3
          by_cases hlt : k < ds.length
          · obtain ⟨vi, hat, hri⟩ := (HDD wr HB.out k hlt).out
            have okx := HOK2.out k hlt
            have HF2 := Lib.hid (HF.out)
            rw [List.drop_eq_getElem_cons hlt] at HF2
            generalize ds[k] = x at *
            obtain ⟨bmx, mmx, nx, lx⟩ := x
            rw [show o + (k + 1) * 4 = o + 4 + k * 4 by omega] at hat
            obtain ⟨c0, c1, c2, c3⟩ := hat
            obtain ⟨via, vic, hvi⟩ := hri.slice
            subst hvi
            obtain ⟨vda, vdm, vdc, rfl⟩ := own_slice HO.out
            dsimp only at c0 c1 c2 c3 hri
            have bx := below_self_alloc wr (delO bmx mmx nx (.slice via lx.length vic))
            have CP := Lib.hid (compose_any _ _ ⟨bmd, mmd, nd, ld⟩ ⟨bmx, mmx, nx, lx⟩ (.slice vda vdm vdc) (.slice via lx.length vic) _ (HO.out.new bx).row (hri.keep bx) (ok_right hdr) okx)
            have HCR := Lib.hid (fun h => comp_right (a := ⟨bmd, mmd, nd, ld⟩) (b := ⟨bmx, mmx, nx, lx⟩) h)
            have HF3 := Lib.hid (show foldG ⟨bmd, mmd, nd, ld⟩ (⟨bmx, mmx, nx, lx⟩ :: ds.drop (k + 1)) = if (compR ⟨bmd, mmd, nd, ld⟩ ⟨bmx, mmx, nx, lx⟩).2 ≠ 0 then (ddZ, (compR ⟨bmd, mmd, nd, ld⟩ ⟨bmx, mmx, nx, lx⟩).2) else foldG (compR ⟨bmd, mmd, nd, ld⟩ ⟨bmx, mmx, nx, lx⟩).1 (ds.drop (k + 1)) from rfl)
            have HF4 := Lib.hid (HF2.out.symm.trans HF3.out)
            have G4X := Lib.hid (old_of bx HG4.out)
            have G0X := Lib.hid (old_of bx HG0.out)
            have HBX := Lib.hid (HB.out.trans (bx.mono HB.out.size))
            obtain ⟨u0, u1, u2, u3⟩ := delO_cells G4X.out
            obtain ⟨t0, t1, t2, t3⟩ := delO_cells (heap_alloc_new wr (delO bmx mmx nx (.slice via lx.length vic)))
            have k0 : (0 : Int) ≤ (k : Int) := by omega
            have k1 : (k : Int) < (ds.length : Int) := by omega
            generalize compR ⟨bmd, mmd, nd, ld⟩ ⟨bmx, mmx, nx, lx⟩ = cr at *
            obtain ⟨⟨bmc, mmc, nc, lc⟩, ec⟩ := cr
            clear HF HF2 HF3 okx bx hdr hri HO HB HG4 HG0 hg4 y0 y1 y2 y3
            go_wp2_with fail
            generalize wr.alloc (.cells #[.string ⟨bmx.toArray⟩, .string ⟨mmx.toArray⟩, .int .i64 nx, .slice via lx.length vic] 34) = wx at *
            refine CP.out.mono ?_
            rintro e w6 ⟨v', rfl, hoc, bc⟩
            obtain ⟨vca, vcm, vcc, rfl⟩ := own_slice hoc
            obtain ⟨⟨S0, S0f⟩, ⟨S1, S1f⟩, ⟨S2, S2f⟩, ⟨S3, S3f⟩, s4', s5'⟩ := four_store (old_of bc G4X.out) (.string ⟨bmc.toArray⟩) (.string ⟨mmc.toArray⟩) (.int .i64 nc) (.slice vca vcm vcc)
            have b6 := HBX.out.trans (bc.mono HBX.out.size)
            have G47 := Lib.hid s4'
            have g07 := s5'.old (old_of bc G0X.out) (by have := HPW.out; omega)
            have b7 := b6.trans (s5'.below b6.size (fun k e => by have := HPW.out; omega))
            have HB7 := Lib.hid b7
            have HO7 := Lib.hid ((hoc.kept s5' (fun g hg e => own_ne hoc (old_of bc G4X.out) (by decide) (e ▸ hg))).mono HBX.out.size)
            by_cases hz : ec = 0
            · have q0 : (ec != 0) = false := by simp [hz]
              have HFN := Lib.hid (show foldG ⟨bmc, mmc, nc, lc⟩ (ds.drop (k + 1)) = foldG (tidR ⟨bm0, mm0, n0, l0⟩) ds by rw [HF4.out]; exact (if_neg (fun h => h hz)).symm)
              have HG07 := Lib.hid g07
              clear s4' s5' b6 b7 hoc bc G4X G0X HBX CP u0 u1 u2 u3 t0 t1 t2 t3 c0 c1 c2 c3 HF4 g07
              go_wp2_with fail
              go_roundw
              case rel => exact ⟨k + 1, ⟨bmc, mmc, nc, lc⟩, _, by omega, by go_num, G47.out, HG07.out, HO7.out, HCR.out hz, HFN, HB7.out⟩
              case measure => simp [intOf]; omega
            · have q0 : (ec != 0) = true := by simp [hz]
              have HFN := Lib.hid (show (ddZ, ec) = res by rw [HR.out, HF4.out]; exact (if_pos hz).symm)
              obtain ⟨⟨R0, R0f⟩, ⟨R1, R1f⟩, ⟨R2, R2f⟩, ⟨R3, R3f⟩, r4', r5'⟩ := four_store g07 (.string ⟨#[]⟩) (.string ⟨#[]⟩) (.int .i64 0) (.slice none 0 0)
              have S4 := Lib.hid r4'
              have HBF := Lib.hid (b7.trans (r5'.below b7.size (fun k e => by omega)))
              clear s4' s5' b6 b7 hoc bc G4X G0X HBX CP u0 u1 u2 u3 t0 t1 t2 t3 c0 c1 c2 c3 HF4 g07 r4' r5'
              go_wp2_with fail
              refine bodyPost_ret (v := .tuple #[ddZ.v (.slice none 0 0), .int .i64 ec]) (results_row_tmp Tryz.results9 _ _ w.heap.size _ _ _ _ rfl S4.out Tryz.underlying34 rfl del_info) rfl ?_
              rw [← HFN.out]
              exact ⟨_, rfl, OwnS.nil _ _, HBF.out⟩
          · obtain rfl : k = ds.length := by omega
            have j1 : ¬ (ds.length : Int) < (ds.length : Int) := by omega
            obtain ⟨vda, vdm, vdc, rfl⟩ := own_slice HO.out
            obtain ⟨⟨S0, S0f⟩, ⟨S1, S1f⟩, ⟨S2, S2f⟩, ⟨S3, S3f⟩, s4', s5'⟩ := four_store HG0.out (.string ⟨bmd.toArray⟩) (.string ⟨mmd.toArray⟩) (.int .i64 nd) (.slice vda vdm vdc)
            have S4 := Lib.hid s4'
            have HBF := Lib.hid (HB.out.trans (s5'.below HB.out.size (fun k e => by omega)))
            have HOF := Lib.hid (HO.out.kept s5' (fun g hg e => own_ne HO.out HG0.out (by decide) (e ▸ hg)))
            clear s4' s5'
            go_wp2_with fail
            refine bodyPost_ret (v := .tuple #[delW bmd mmd nd (.slice vda vdm vdc), .int .i64 0]) (results_row_tmp Tryz.results9 _ _ w.heap.size _ _ _ _ rfl S4.out Tryz.underlying34 rfl del_info) rfl ?_
            rw [HR.out, ← HF.out, List.drop_length]
            exact ⟨_, rfl, HOF.out, HBF.out⟩
end Go.Proofs.YtpkgjokehgihjaaGreat
