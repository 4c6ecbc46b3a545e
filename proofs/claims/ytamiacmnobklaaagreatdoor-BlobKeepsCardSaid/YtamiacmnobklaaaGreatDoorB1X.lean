/- Several texts in one: BlobMath, BlobAt, BlobW, BlobLeadW, BlobOpsW. -/
import Derived.Test.YtamiacmnobklaaaGreatDoorMarkMath
import Derived.Test.YtamiacmnobklaaaGreatDoorBookW
import Derived.Test.YtamiacmnobklaaaGreatDoorFrame
import Derived.Test.YtamiacmnobklaaaGreatDoorGen
import Derived.Test.YtamiacmnobklaaaGreatDoorOwnL
import Derived.Test.YtamiacmnobklaaaGreatDoorRowN
import Derived.Test.YtamiacmnobklaaaGreatDoorRows
import Derived.Test.YtamiacmnobklaaaGreatDoorShelf
import Derived.IntWalk
import Derived.Laws.BitsAllLaws
import Derived.Laws.Rows
import Derived.Laws.Tables
import Derived.Lib.Hide
import Derived.Maps.OwnOps
import Derived.Maps.RangeWalk
import Derived.Outline
import Derived.WalkKit
import Derived.WalkLawsBesides
import Derived.WalkSpells
import Derived.BigRegion
/- Texts by their marks, as a list: what is kept, and how many lead to it. Of no program. -/
set_option linter.unusedVariables false
namespace Go.Proofs.YtamiacmnobklaaaGreatDoor

/-- A text that is kept: its mark, itself, how many lead to it. -/
structure Ent where
  m : Txt
  s : Txt
  n : Nat
def keysE (T : List Ent) : List Txt := T.map (·.m)
def getE (T : List Ent) (m : Txt) : Option Ent := T.find? (fun x => decide (x.m = m))
def refsE (T : List Ent) (m : Txt) : Nat := ((getE T m).map (·.n)).getD 0
def bumpE (m : Txt) (x : Ent) : Ent := if x.m = m then ⟨x.m, x.s, x.n + 1⟩ else x
def lessE (m : Txt) (x : Ent) : Ent := if x.m = m then ⟨x.m, x.s, x.n - 1⟩ else x
def putE (T : List Ent) (m s : Txt) : List Ent := if m ∈ keysE T then T.map (bumpE m) else T ++ [⟨m, s, 1⟩]
def delE (T : List Ent) (m : Txt) : List Ent := T.filter (fun x => decide (x.m ≠ m))
def dropE (T : List Ent) (m : Txt) : List Ent := if refsE T m = 1 then delE T m else T.map (lessE m)
def sumE (T : List Ent) : Nat := (T.map (·.s.length)).sum
/-- The list is one: no mark twice, each is led to. -/
structure TOk (T : List Ent) : Prop where
  nd : (keysE T).Nodup
  pos : ∀ x ∈ T, 1 ≤ x.n
  sm : ∀ x ∈ T, x.s.length ≤ 65536

theorem mem_keysE {T : List Ent} {m : Txt} : m ∈ keysE T ↔ ∃ x ∈ T, x.m = m := by unfold keysE; simp
theorem getE_some {T : List Ent} {m : Txt} {x : Ent} (h : getE T m = some x) : x ∈ T ∧ x.m = m := by
  unfold getE at h
  exact ⟨List.mem_of_find?_eq_some h, by have := List.find?_some h; simpa using this⟩
theorem getE_none {T : List Ent} {m : Txt} : getE T m = none ↔ m ∉ keysE T := by
  unfold getE
  rw [List.find?_eq_none, mem_keysE]
  simp
theorem getE_of {T : List Ent} (h : (keysE T).Nodup) {x : Ent} (hx : x ∈ T) : getE T x.m = some x := by
  induction T with
  | nil => simp at hx
  | cons y r ih =>
    unfold getE
    rw [List.find?_cons]
    unfold keysE at h
    rw [List.map_cons, List.nodup_cons] at h
    rcases List.mem_cons.1 hx with rfl | hx'
    · simp
    · have hne : y.m ≠ x.m := fun e => h.1 (e ▸ List.mem_map.2 ⟨x, hx', rfl⟩)
      simp only [hne, decide_false]
      exact ih h.2 hx'
theorem getE_in {T : List Ent} {m : Txt} (h : m ∈ keysE T) : ∃ x, getE T m = some x ∧ x ∈ T ∧ x.m = m := by
  cases hg : getE T m with
  | none => exact absurd h (getE_none.1 hg)
  | some x => exact ⟨x, rfl, getE_some hg⟩
theorem refsE_none {T : List Ent} {m : Txt} (h : m ∉ keysE T) : refsE T m = 0 := by unfold refsE; rw [getE_none.2 h]; rfl
theorem refsE_some {T : List Ent} {m : Txt} {x : Ent} (h : getE T m = some x) : refsE T m = x.n := by unfold refsE; rw [h]; rfl
theorem refsE_pos {T : List Ent} (hT : TOk T) {m : Txt} (h : m ∈ keysE T) : 1 ≤ refsE T m := by
  obtain ⟨x, hg, hx, _⟩ := getE_in h
  rw [refsE_some hg]
  exact hT.pos x hx
theorem in_of_refs {T : List Ent} {m : Txt} (h : 1 ≤ refsE T m) : m ∈ keysE T := by
  cases hg : getE T m with
  | none => unfold refsE at h; rw [hg] at h; simp at h
  | some x => exact mem_keysE.2 ⟨x, getE_some hg⟩
theorem bumpE_m (m : Txt) (x : Ent) : (bumpE m x).m = x.m := by unfold bumpE; split <;> rfl
theorem bumpE_s (m : Txt) (x : Ent) : (bumpE m x).s = x.s := by unfold bumpE; split <;> rfl
theorem lessE_m (m : Txt) (x : Ent) : (lessE m x).m = x.m := by unfold lessE; split <;> rfl
theorem lessE_s (m : Txt) (x : Ent) : (lessE m x).s = x.s := by unfold lessE; split <;> rfl
theorem keysE_map {T : List Ent} {f : Ent → Ent} (hf : ∀ x, (f x).m = x.m) : keysE (T.map f) = keysE T := by
  unfold keysE
  rw [List.map_map]
  exact List.map_congr_left (fun x _ => hf x)
theorem getE_map {T : List Ent} {f : Ent → Ent} (hf : ∀ x, (f x).m = x.m) (m : Txt) : getE (T.map f) m = (getE T m).map f := by
  unfold getE
  rw [List.find?_map]
  congr 1
  have : ((fun x : Ent => decide (x.m = m)) ∘ f) = fun x => decide (x.m = m) := by funext x; simp [hf]
  rw [this]
theorem keysE_del (T : List Ent) (m k : Txt) : k ∈ keysE (delE T m) ↔ k ∈ keysE T ∧ k ≠ m := by
  rw [mem_keysE, mem_keysE]
  unfold delE
  constructor
  · rintro ⟨x, hx, rfl⟩
    rw [List.mem_filter] at hx
    exact ⟨⟨x, hx.1, rfl⟩, by simpa using hx.2⟩
  · rintro ⟨⟨x, hx, rfl⟩, h⟩
    exact ⟨x, List.mem_filter.2 ⟨hx, by simpa using h⟩, rfl⟩
theorem nodup_del {T : List Ent} (h : (keysE T).Nodup) (m : Txt) : (keysE (delE T m)).Nodup := by
  unfold keysE delE at *
  exact h.sublist (List.filter_sublist.map _)
theorem getE_del_same (T : List Ent) (m : Txt) : getE (delE T m) m = none := getE_none.2 (fun h => ((keysE_del T m m).1 h).2 rfl)
theorem getE_del_other (T : List Ent) {m k : Txt} (h : k ≠ m) : getE (delE T m) k = getE T k := by
  unfold getE delE
  rw [List.find?_filter]
  congr 1
  funext x
  by_cases e : x.m = k
  · subst e; simp [h]
  · simp [e]
theorem length_del {T : List Ent} (h : (keysE T).Nodup) {m : Txt} (hm : m ∈ keysE T) : (delE T m).length + 1 = T.length := by
  induction T with
  | nil => simp [keysE] at hm
  | cons y r ih =>
    unfold keysE at h hm
    rw [List.map_cons, List.nodup_cons] at h
    rw [List.map_cons] at hm
    unfold delE
    rw [List.filter_cons]
    by_cases e : y.m = m
    · have : r.filter (fun x => decide (x.m ≠ m)) = r := by
        rw [List.filter_eq_self]
        intro x hx
        have : x.m ≠ m := fun e2 => h.1 (by rw [e, ← e2]; exact List.mem_map.2 ⟨x, hx, rfl⟩)
        simpa using this
      rw [if_neg (by simpa using e)]
      show (r.filter (fun x => decide (x.m ≠ m))).length + 1 = _
      rw [this]
      rfl
    · have hm2 : m ∈ keysE r := by
        rcases List.mem_cons.1 hm with e2 | h2
        · exact absurd e2.symm e
        · exact h2
      have := ih h.2 hm2
      unfold delE at this
      simp only [ne_eq, e, not_false_eq_true, decide_true, if_true, List.length_cons]
      simp only [ne_eq] at this
      omega
theorem length_bump (T : List Ent) (m : Txt) : (T.map (bumpE m)).length = T.length := by simp
/-! ### put -/
theorem TOk.nil : TOk [] := ⟨by simp [keysE], by simp, by simp⟩
theorem TOk.put {T : List Ent} (h : TOk T) (m s : Txt) (hs : s.length ≤ 65536) : TOk (putE T m s) := by
  unfold putE
  split
  · refine ⟨by rw [keysE_map (bumpE_m m)]; exact h.nd, ?_, fun x hx => by obtain ⟨y, hy, rfl⟩ := List.mem_map.1 hx; rw [bumpE_s]; exact h.sm y hy⟩
    intro x hx
    obtain ⟨y, hy, rfl⟩ := List.mem_map.1 hx
    have := h.pos y hy
    unfold bumpE
    split
    · exact Nat.le_add_left _ _
    · exact this
  · rename_i hm
    refine ⟨?_, ?_, ?_⟩
    · unfold keysE
      rw [List.map_append, List.nodup_append]
      refine ⟨h.nd, by simp, ?_⟩
      intro a ha b hb
      simp at hb
      subst hb
      rintro rfl
      exact hm ha
    · intro x hx
      rcases List.mem_append.1 hx with hx | hx
      · exact h.pos x hx
      · simp at hx; subst hx; exact Nat.le_refl _
    · intro x hx
      rcases List.mem_append.1 hx with hx | hx
      · exact h.sm x hx
      · simp at hx; subst hx; exact hs
theorem getE_put_other (T : List Ent) {m k : Txt} (s : Txt) (h : k ≠ m) : getE (putE T m s) k = getE T k := by
  unfold putE
  split
  · rw [getE_map (bumpE_m m)]
    cases hg : getE T k with
    | none => rfl
    | some x =>
      have := (getE_some hg).2
      simp only [Option.map_some]
      unfold bumpE
      rw [if_neg (by rw [this]; exact h)]
  · unfold getE
    rw [List.find?_append]
    cases hg : T.find? (fun x => decide (x.m = k)) with
    | some x => rfl
    | none => simp [Ne.symm h]
theorem getE_put_in {T : List Ent} {m : Txt} (s : Txt) {x : Ent} (h : getE T m = some x) : getE (putE T m s) m = some ⟨m, x.s, x.n + 1⟩ := by
  obtain ⟨hx, hm⟩ := getE_some h
  unfold putE
  rw [if_pos (mem_keysE.2 ⟨x, hx, hm⟩), getE_map (bumpE_m m), h]
  simp only [Option.map_some]
  unfold bumpE
  rw [if_pos hm, hm]
theorem getE_put_new {T : List Ent} {m : Txt} (s : Txt) (h : m ∉ keysE T) : getE (putE T m s) m = some ⟨m, s, 1⟩ := by
  unfold putE
  rw [if_neg h]
  unfold getE
  rw [List.find?_append]
  have := getE_none.2 h
  unfold getE at this
  rw [this]
  simp
theorem refsE_put (T : List Ent) (m s k : Txt) : refsE (putE T m s) k = refsE T k + (if k = m then 1 else 0) := by
  by_cases e : k = m
  · subst e
    rw [if_pos rfl]
    by_cases h : k ∈ keysE T
    · obtain ⟨x, hg, _⟩ := getE_in h
      rw [refsE_some (getE_put_in s hg), refsE_some hg]
    · rw [refsE_some (getE_put_new s h), refsE_none h]
  · rw [if_neg e]
    unfold refsE
    rw [getE_put_other T s e, Nat.add_zero]
/-! ### drop -/
theorem TOk.del {T : List Ent} (h : TOk T) (m : Txt) : TOk (delE T m) :=
  ⟨nodup_del h.nd m, fun x hx => h.pos x (List.mem_filter.1 hx).1, fun x hx => h.sm x (List.mem_filter.1 hx).1⟩
theorem TOk.drop {T : List Ent} (h : TOk T) (m : Txt) : TOk (dropE T m) := by
  unfold dropE
  split
  · exact h.del m
  · rename_i hr
    refine ⟨by rw [keysE_map (lessE_m m)]; exact h.nd, ?_, fun x hx => by obtain ⟨y, hy, rfl⟩ := List.mem_map.1 hx; rw [lessE_s]; exact h.sm y hy⟩
    intro x hx
    obtain ⟨y, hy, rfl⟩ := List.mem_map.1 hx
    have := h.pos y hy
    unfold lessE
    split
    · rename_i hm
      have e := getE_of h.nd hy
      rw [hm] at e
      rw [refsE_some e] at hr
      show 1 ≤ y.n - 1
      omega
    · exact this
theorem getE_drop_other (T : List Ent) {m k : Txt} (h : k ≠ m) : getE (dropE T m) k = getE T k := by
  unfold dropE
  split
  · exact getE_del_other T h
  · rw [getE_map (lessE_m m)]
    cases hg : getE T k with
    | none => rfl
    | some x =>
      have := (getE_some hg).2
      simp only [Option.map_some]
      unfold lessE
      rw [if_neg (by rw [this]; exact h)]
theorem refsE_drop (T : List Ent) (m k : Txt) : refsE (dropE T m) k = refsE T k - (if k = m then 1 else 0) := by
  by_cases e : k = m
  · subst e
    rw [if_pos rfl]
    unfold dropE
    split
    · rename_i h
      rw [h]
      unfold refsE
      rw [getE_del_same]
      rfl
    · unfold refsE
      rw [getE_map (lessE_m k)]
      cases hg : getE T k with
      | none => rfl
      | some x =>
        have := (getE_some hg).2
        simp only [Option.map_some, Option.getD_some]
        unfold lessE
        rw [if_pos this]
  · rw [if_neg e]
    unfold refsE
    rw [getE_drop_other T e, Nat.sub_zero]
theorem getE_drop_s {T : List Ent} {m k : Txt} {x : Ent} (h : getE (dropE T m) k = some x) : ∃ y, getE T k = some y ∧ y.s = x.s := by
  by_cases e : k = m
  · subst e
    unfold dropE at h
    split at h
    · rw [getE_del_same] at h; cases h
    · rw [getE_map (lessE_m k)] at h
      cases hg : getE T k with
      | none => rw [hg] at h; cases h
      | some y => rw [hg] at h; simp only [Option.map_some, Option.some.injEq] at h; exact ⟨y, rfl, by rw [← h, lessE_s]⟩
  · rw [getE_drop_other T e] at h; exact ⟨x, h, rfl⟩
/-! ### all bytes -/
theorem sumE_append (a b : List Ent) : sumE (a ++ b) = sumE a + sumE b := by unfold sumE; simp
theorem sumE_filter {T : List Ent} (h : (keysE T).Nodup) (f g : Txt → Bool) {x : Ent} (hx : x ∈ T) (hf : f x.m = false) (hg : ∀ m, g m = (f m || decide (m = x.m))) :
    sumE (T.filter (fun y => g y.m)) = sumE (T.filter (fun y => f y.m)) + x.s.length := by
  induction T with
  | nil => simp at hx
  | cons y r ih =>
    unfold keysE at h
    rw [List.map_cons, List.nodup_cons] at h
    rw [List.filter_cons, List.filter_cons]
    rcases List.mem_cons.1 hx with rfl | hx'
    · have e : r.filter (fun y => g y.m) = r.filter (fun y => f y.m) := by
        refine List.filter_congr (fun z hz => ?_)
        have hne : z.m ≠ x.m := fun e => h.1 (e ▸ List.mem_map.2 ⟨z, hz, rfl⟩)
        rw [hg]
        simp [hne]
      have hgx : g x.m = true := by rw [hg]; simp
      rw [e, hgx, hf]
      simp [sumE]
      omega
    · have hne : y.m ≠ x.m := fun e => h.1 (e ▸ List.mem_map.2 ⟨x, hx', rfl⟩)
      have hgy : g y.m = f y.m := by rw [hg]; simp [hne]
      have := ih h.2 hx'
      rw [hgy]
      cases f y.m
      · simpa using this
      · simp only [if_true]
        unfold sumE at *
        simp only [List.map_cons, List.sum_cons]
        omega
theorem sumE_le {T : List Ent} {B : Nat} (h : ∀ x ∈ T, x.s.length ≤ B) : sumE T ≤ T.length * B := by
  induction T with
  | nil => simp [sumE]
  | cons y r ih =>
    have := ih (fun x hx => h x (by simp [hx]))
    have h1 := h y (by simp)
    unfold sumE at *
    simp only [List.map_cons, List.sum_cons, List.length_cons, Nat.add_mul, Nat.one_mul]
    omega
theorem sumE_filter_le (T : List Ent) (f : Txt → Bool) : sumE (T.filter (fun y => f y.m)) ≤ sumE T := by
  induction T with
  | nil => simp [sumE]
  | cons y r ih =>
    rw [List.filter_cons]
    unfold sumE at *
    split <;> simp only [List.map_cons, List.sum_cons] <;> omega
/-! ### how many -/
structure TB (k : Nat) (T : List Ent) : Prop where
  len : T.length ≤ k
  ref : ∀ x ∈ T, x.n ≤ k
theorem TB.nil : TB 0 [] := ⟨by simp, by simp⟩
theorem TB.mono {k j : Nat} {T : List Ent} (h : TB k T) (hj : k ≤ j) : TB j T := ⟨Nat.le_trans h.len hj, fun x hx => Nat.le_trans (h.ref x hx) hj⟩
theorem TB.put {k : Nat} {T : List Ent} (h : TB k T) (m s : Txt) : TB (k + 1) (putE T m s) := by
  unfold putE
  split
  · refine ⟨by rw [length_bump]; have := h.len; omega, fun x hx => ?_⟩
    obtain ⟨y, hy, rfl⟩ := List.mem_map.1 hx
    have := h.ref y hy
    unfold bumpE
    split
    · show y.n + 1 ≤ k + 1; omega
    · omega
  · refine ⟨by rw [List.length_append]; have := h.len; simp; omega, fun x hx => ?_⟩
    rcases List.mem_append.1 hx with hx | hx
    · have := h.ref x hx; omega
    · simp at hx; subst hx; show 1 ≤ k + 1; omega
theorem TB.drop {k : Nat} {T : List Ent} (h : TB k T) (m : Txt) : TB k (dropE T m) := by
  unfold dropE
  split
  · exact ⟨Nat.le_trans (List.length_filter_le _ _) h.len, fun x hx => h.ref x (List.mem_filter.1 hx).1⟩
  · refine ⟨by rw [List.length_map]; exact h.len, fun x hx => ?_⟩
    obtain ⟨y, hy, rfl⟩ := List.mem_map.1 hx
    have := h.ref y hy
    unfold lessE
    split
    · show y.n - 1 ≤ k; omega
    · omega
theorem TB.refs {k : Nat} {T : List Ent} (h : TB k T) (m : Txt) : refsE T m ≤ k := by
  cases hg : getE T m with
  | none => unfold refsE; rw [hg]; exact Nat.zero_le _
  | some x => rw [refsE_some hg]; exact h.ref x (getE_some hg).1
theorem TB.sum {k : Nat} {T : List Ent} (h : TB k T) (hT : TOk T) : sumE T ≤ k * 65536 := Nat.le_trans (sumE_le hT.sm) (Nat.mul_le_mul_right _ h.len)
end Go.Proofs.YtamiacmnobklaaaGreatDoor
/- Blobs in memory: what stands where. -/
set_option linter.unusedVariables false
namespace Go.Proofs.YtamiacmnobklaaaGreatDoor
open Go.RowKit

theorem Kept.beyondB {w a b : World} {M N : Nat → Prop} (h : Kept M w a) (k : Kept N a b) (hn : ∀ i, i < w.heap.size → N i → M i) : Kept M w b :=
  ⟨k.os.trans h.os, k.tape.trans h.tape, k.output.trans h.output, Nat.le_trans h.size k.size, fun i hi hm => (k.block i (Nat.lt_of_lt_of_le hi h.size) (fun n => hm (hn i hi n))).trans (h.block i hi hm)⟩
def encZB (t : Txt) : List Value := [.string ⟨t.toArray⟩]
theorem encZB_ok : EncN encZB 1 := ⟨fun _ => rfl, fun x u hu => by simp [encZB] at hu; rw [hu]; rfl⟩
theorem info_strB : (Tryz.prog.info? 9).map (fun i => (i.zero, i.size, i.bytes)) = some (some (.string ByteArray.empty), 1, 16) := by kernel_rfl
/-- How a pointer in a map reads: as the number of its block. -/
def ptrElem : Value → Option (DataW Unit × List MemPlace)
  | .pointer none => some (.lit (.int .i64 (-1)), [])
  | .pointer (some ⟨b, 0, none⟩) => some (.lit (.int .i64 (b : Int)), [])
  | _ => none
abbrev litP (b : Nat) : DataW Unit := .lit (.int .i64 (b : Int))
abbrev litNo : DataW Unit := .lit (.int .i64 (-1))
theorem ptrElem_inv {v : Value} {b : Nat} {ps : List MemPlace} (h : ptrElem v = some (litP b, ps)) : v = .pointer (some ⟨b, 0, none⟩) := by
  unfold ptrElem at h
  split at h
  · injection h with h
    injection h with h _
    injection h with h
    injection h with _ h
    omega
  · injection h with h
    injection h with h _
    injection h with h
    injection h with _ h
    have : (_ : Nat) = b := Int.ofNat.inj h
    subst this
    rfl
  · cases h
theorem ptrElem_no {v : Value} {ps : List MemPlace} (h : ptrElem v = some (litNo, ps)) : v = .pointer none := by
  unfold ptrElem at h
  split at h
  · rfl
  · injection h with h
    injection h with h _
    injection h with h
    injection h with _ h
    omega
  · cases h
theorem ptrElem_shape {v : Value} {y : DataW Unit × List MemPlace} (h : ptrElem v = some y) : ∃ a, v = .pointer a := by
  unfold ptrElem at h
  split at h
  · exact ⟨_, rfl⟩
  · exact ⟨_, rfl⟩
  · cases h
/-- The map's reading: each mark's block. -/
structure TabIs (D : DataW Unit) (T : List Ent) (β : Txt → Nat) : Prop where
  tidy : Maps.Tidy D
  size : Maps.size D = T.length
  has : ∀ m : Txt, Maps.has D (.string m) = decide (m ∈ keysE T)
  at' : ∀ m : Txt, m ∈ keysE T → ∀ z, D.atKey (.string m) z = litP (β m)
theorem TabIs.start (β : Txt → Nat) : TabIs (.map []) [] β := ⟨Maps.tidy_empty, rfl, fun m => by simp [Maps.has, keysE], fun m h => by simp [keysE] at h⟩
theorem TabIs.same {D : DataW Unit} {T U : List Ent} {β : Txt → Nat} (h : TabIs D T β) (hk : keysE U = keysE T) : TabIs D U β := by
  have hl : U.length = T.length := by have := congrArg List.length hk; simpa [keysE] using this
  exact ⟨h.tidy, by rw [h.size, hl], fun m => by rw [h.has, hk], fun m hm => h.at' m (hk ▸ hm)⟩
def newB (β : Txt → Nat) (m : Txt) (g : Nat) (k : Txt) : Nat := if k = m then g else β k
theorem newB_same (β : Txt → Nat) (m : Txt) (g : Nat) : newB β m g m = g := by unfold newB; rw [if_pos rfl]
theorem newB_other (β : Txt → Nat) {m k : Txt} (g : Nat) (h : k ≠ m) : newB β m g k = β k := by unfold newB; rw [if_neg h]
theorem TabIs.put {D : DataW Unit} {T : List Ent} {β : Txt → Nat} (h : TabIs D T β) (m s : Txt) (g : Nat) (hm : m ∉ keysE T) : TabIs (D.put (.string m) (litP g)) (putE T m s) (newB β m g) := by
  have hk : WideAt.IsKeyLit (.string m) := trivial
  have hno : Maps.has D (.string m) = false := by rw [h.has]; exact decide_eq_false hm
  have e : putE T m s = T ++ [⟨m, s, 1⟩] := by unfold putE; rw [if_neg hm]
  have ek : ∀ k, k ∈ keysE (putE T m s) ↔ k ∈ keysE T ∨ k = m := fun k => by rw [e]; unfold keysE; simp
  refine ⟨h.tidy.put hk _, ?_, fun k => ?_, fun k hkk z => ?_⟩
  · rw [Maps.size_put h.tidy, hno, h.size, e, List.length_append]; rfl
  · by_cases ekm : k = m
    · subst ekm
      rw [Maps.has_put_same h.tidy.isMap hk]
      exact (decide_eq_true ((ek k).2 (.inr rfl))).symm
    · rw [Maps.has_put_other (fun e' => ekm (by injection e')), h.has]
      simp [ek, ekm]
  · by_cases ekm : k = m
    · subst ekm
      rw [Maps.atKey_put_same h.tidy.isMap hk, newB_same]
    · rw [Maps.atKey_put_other (fun e' => ekm (by injection e')), newB_other _ _ ekm]
      refine h.at' k ?_ z
      rcases (ek k).1 hkk with c | c
      · exact c
      · exact absurd c ekm
theorem TabIs.del {D : DataW Unit} {T : List Ent} {β : Txt → Nat} (h : TabIs D T β) (hT : TOk T) (m : Txt) (hm : m ∈ keysE T) : TabIs (D.del (.string m)) (delE T m) β := by
  have hyes : Maps.has D (.string m) = true := by rw [h.has]; exact decide_eq_true hm
  refine ⟨h.tidy.del _, ?_, fun k => ?_, fun k hk z => ?_⟩
  · have := Maps.size_del (k := .string m) h.tidy
    rw [hyes, h.size] at this
    have h2 := length_del hT.nd hm
    simp at this
    omega
  · by_cases e : k = m
    · subst e
      rw [Maps.has_del_same]
      exact (decide_eq_false (fun c => ((keysE_del T k k).1 c).2 rfl)).symm
    · rw [Maps.has_del_other (fun e' => e (by injection e')), h.has]
      have := keysE_del T m k
      by_cases c : k ∈ keysE T
      · rw [decide_eq_true c, decide_eq_true (this.2 ⟨c, e⟩)]
      · rw [decide_eq_false c, decide_eq_false (fun d => c (this.1 d).1)]
  · obtain ⟨c, e⟩ := (keysE_del T m k).1 hk
    rw [Maps.atKey_del_other (fun e' => e (by injection e'))]
    exact h.at' k c z

/-- Blobs in block pb over the book in block p; N tells their own blocks. -/
structure BlobIs (w : World) (pb p : Nat) (N : Nat → Prop) (T : List Ent) (R : List Txt) (mt : Nat) (v : Value) (D : DataW Unit) (β : Txt → Nat) : Prop where
  box : w.heap[pb]? = some (.cells #[.pointer (some ⟨p, 0, none⟩), .map (some mt), v] 73 (0, 0))
  own : w.ownsMap Tryz.prog 9 ptrElem mt T.length D
  tab : TabIs D T β
  ok : TOk T
  ent : ∀ x ∈ T, w.heap[β x.m]? = some (.cells #[.string ⟨x.s.toArray⟩, .int .i64 (x.n : Int)] 87 (0, 0))
  inj : ∀ m ∈ keysE T, ∀ k ∈ keysE T, β m = β k → m = k
  row : OwnN encZB 1 w 0 9 v R
  nb : N pb
  nm : N mt
  ne : ∀ m ∈ keysE T, N (β m)
  nr : ∀ g, v.ownBlock = some g → N g
  lt : ∀ g, N g → g < w.heap.size
  rs : ∀ r ∈ R, r.length ≤ 1000
def BlobAt (w : World) (pb p : Nat) (N : Nat → Prop) (T : List Ent) (R : List Txt) : Prop := ∃ mt v D β, BlobIs w pb p N T R mt v D β
theorem BlobIs.kept {w w' : World} {pb p : Nat} {N : Nat → Prop} {T : List Ent} {R : List Txt} {mt : Nat} {v : Value} {D : DataW Unit} {β : Txt → Nat} {M : Nat → Prop} (h : BlobIs w pb p N T R mt v D β) (hk : Kept M w w') (hm : ∀ g, N g → ¬ M g) : BlobIs w' pb p N T R mt v D β := by
  refine ⟨hk.old h.box (hm _ h.nb), ?_, h.tab, h.ok, fun x hx => hk.old (h.ent x hx) (hm _ (h.ne _ (mem_keysE.2 ⟨x, hx, rfl⟩))), h.inj, h.row.kept hk (fun g hg => hm g (h.nr g hg)), h.nb, h.nm, h.ne, h.nr, fun g hg => Nat.lt_of_lt_of_le (h.lt g hg) hk.size, h.rs⟩
  obtain ⟨es, cl, hb, rest⟩ := h.own
  exact ⟨es, cl, hk.old hb (hm _ h.nm), rest⟩
theorem BlobAt.kept {w w' : World} {pb p : Nat} {N : Nat → Prop} {T : List Ent} {R : List Txt} {M : Nat → Prop} (h : BlobAt w pb p N T R) (hk : Kept M w w') (hm : ∀ g, N g → ¬ M g) : BlobAt w' pb p N T R := by
  obtain ⟨mt, v, D, β, h⟩ := h
  exact ⟨mt, v, D, β, h.kept hk hm⟩
theorem BlobAt.new {w w' : World} {pb p : Nat} {N : Nat → Prop} {T : List Ent} {R : List Txt} (h : BlobAt w pb p N T R) (hb : Below w.heap.size w w') : BlobAt w' pb p N T R := h.kept (Kept.new hb (fun _ => False)) (fun _ _ => id)
theorem BlobAt.tok {w : World} {pb p : Nat} {N : Nat → Prop} {T : List Ent} {R : List Txt} (h : BlobAt w pb p N T R) : TOk T := by obtain ⟨mt, v, D, β, h⟩ := h; exact h.ok
theorem BlobAt.lt {w : World} {pb p : Nat} {N : Nat → Prop} {T : List Ent} {R : List Txt} (h : BlobAt w pb p N T R) : pb < w.heap.size ∧ ∀ g, N g → g < w.heap.size := by obtain ⟨mt, v, D, β, h⟩ := h; exact ⟨h.lt _ h.nb, h.lt⟩
theorem BlobIs.c0 {w : World} {pb p : Nat} {N : Nat → Prop} {T : List Ent} {R : List Txt} {mt : Nat} {v : Value} {D : DataW Unit} {β : Txt → Nat} (h : BlobIs w pb p N T R mt v D β) : w.cell? ⟨pb, 0, none⟩ = some (.pointer (some ⟨p, 0, none⟩)) := by rw [cell_of_row _ _ _ _ _ _ h.box]; rfl
theorem BlobIs.c1 {w : World} {pb p : Nat} {N : Nat → Prop} {T : List Ent} {R : List Txt} {mt : Nat} {v : Value} {D : DataW Unit} {β : Txt → Nat} (h : BlobIs w pb p N T R mt v D β) : w.cell? ⟨pb, 1, none⟩ = some (.map (some mt)) := by rw [cell_of_row _ _ _ _ _ _ h.box]; rfl
theorem BlobIs.c2 {w : World} {pb p : Nat} {N : Nat → Prop} {T : List Ent} {R : List Txt} {mt : Nat} {v : Value} {D : DataW Unit} {β : Txt → Nat} (h : BlobIs w pb p N T R mt v D β) : w.cell? ⟨pb, 2, none⟩ = some v := by rw [cell_of_row _ _ _ _ _ _ h.box]; rfl
theorem BlobIs.e0 {w : World} {pb p : Nat} {N : Nat → Prop} {T : List Ent} {R : List Txt} {mt : Nat} {v : Value} {D : DataW Unit} {β : Txt → Nat} (h : BlobIs w pb p N T R mt v D β) {x : Ent} (hx : x ∈ T) : w.cell? ⟨β x.m, 0, none⟩ = some (.string ⟨x.s.toArray⟩) := by rw [cell_of_row _ _ _ _ _ _ (h.ent x hx)]; rfl
theorem BlobIs.e1 {w : World} {pb p : Nat} {N : Nat → Prop} {T : List Ent} {R : List Txt} {mt : Nat} {v : Value} {D : DataW Unit} {β : Txt → Nat} (h : BlobIs w pb p N T R mt v D β) {x : Ent} (hx : x ∈ T) : w.cell? ⟨β x.m, 1, none⟩ = some (.int .i64 (x.n : Int)) := by rw [cell_of_row _ _ _ _ _ _ (h.ent x hx)]; rfl
/-- What a call leaves: its blobs' own blocks and the book's map alone have turned. -/
structure BTurn (w w' : World) (bm : Nat) (N N' : Nat → Prop) : Prop where
  kp : Kept (fun k => N k ∨ k = bm) w w'
  mov : ∀ k, N' k → N k ∨ w.heap.size ≤ k
theorem BTurn.refl (w : World) (bm : Nat) (N : Nat → Prop) : BTurn w w bm N N := ⟨Kept.refl _ _, fun _ h => .inl h⟩
theorem BTurn.trans {w w1 w2 : World} {bm : Nat} {N N1 N2 : Nat → Prop} (h : BTurn w w1 bm N N1) (k : BTurn w1 w2 bm N1 N2) : BTurn w w2 bm N N2 := by
  refine ⟨h.kp.beyondB k.kp (fun i hi hn => ?_), fun g hg => ?_⟩
  · rcases hn with c | c
    · rcases h.mov i c with c | c
      · exact .inl c
      · omega
    · exact .inr c
  · rcases k.mov g hg with c | c
    · exact h.mov g c
    · exact .inr (Nat.le_trans h.kp.size c)
theorem BTurn.new {w w1 w2 : World} {bm : Nat} {N N1 : Nat → Prop} (h : BTurn w w1 bm N N1) (hb : Below w1.heap.size w1 w2) : BTurn w w2 bm N N1 := h.trans ⟨Kept.new hb _, fun _ h => .inl h⟩
theorem BTurn.of_new {w w1 : World} (hb : Below w.heap.size w w1) (bm : Nat) (N : Nat → Prop) : BTurn w w1 bm N N := ⟨Kept.new hb _, fun _ h => .inl h⟩
theorem BTurn.below {w w1 : World} {bm B : Nat} {N N1 : Nat → Prop} (h : BTurn w w1 bm N N1) (hB : B ≤ w.heap.size) (hN : ∀ k, N k → B ≤ k) (hbm : B ≤ bm) : Below B w w1 :=
  h.kp.below hB (fun k hk => by rcases hk with c | rfl; exact hN k c; exact hbm)
theorem BTurn.from {w w1 : World} {bm B : Nat} {N N1 : Nat → Prop} (h : BTurn w w1 bm N N1) (hB : B ≤ w.heap.size) (hN : ∀ k, N k → B ≤ k) : ∀ k, N1 k → B ≤ k := fun k hk => by
  rcases h.mov k hk with c | c
  · exact hN k c
  · omega
theorem BTurn.off {w w1 : World} {bm : Nat} {N N1 : Nat → Prop} (h : BTurn w w1 bm N N1) {g : Nat} (hg : ¬ N g) (hlt : g < w.heap.size) : ¬ N1 g := fun c => by
  rcases h.mov g c with c | c
  · exact hg c
  · omega
/-- Blobs and their ideal book. -/
structure BW (w : World) (pb p bm : Nat) (N : Nat → Prop) (S : List Txt) (T : List Ent) (R : List Txt) : Prop where
  blob : BlobAt w pb p N T R
  id : IdealAt w p bm S
  np : ¬ N p
  nm : ¬ N bm
theorem BW.new {w w' : World} {pb p bm : Nat} {N : Nat → Prop} {S : List Txt} {T : List Ent} {R : List Txt} (h : BW w pb p bm N S T R) (hb : Below w.heap.size w w') : BW w' pb p bm N S T R := ⟨h.blob.new hb, h.id.new hb, h.np, h.nm⟩
/-- Where others' blocks have turned. -/
theorem BW.kept {w w' : World} {pb p bm : Nat} {N M : Nat → Prop} {S : List Txt} {T : List Ent} {R : List Txt} (h : BW w pb p bm N S T R) (hk : Kept M w w') (hm : ∀ g, N g → ¬ M g) (hp : ¬ M p) (hbm : ¬ M bm) : BW w' pb p bm N S T R := ⟨h.blob.kept hk hm, h.id.kept hk hp hbm, h.np, h.nm⟩
end Go.Proofs.YtamiacmnobklaaaGreatDoor
/- Landed blob: ready, lead, Put, Get, Refs, Drop, Count, walked. -/
set_option linter.unusedVariables false
namespace Go.Proofs.YtamiacmnobklaaaGreatDoor
open Go.RowKit

theorem zeroPtr (w : World) : (zeroValue 85).run Tryz.prog w = .ok (.pointer none) w := by kernel_rfl
theorem keyOf_txt (m : Txt) (h : m.length ≤ 140737488351232) : keyOf Tryz.prog 9 (.string ⟨m.toArray⟩) = some (.string m) := WideMaps.keyOf_string_mk Tryz.underlying9 (s := ⟨m.toArray⟩) (by show m.length ≤ maxLen; unfold maxLen; omega)
section
variable {w : World} {pb p : Nat} {N : Nat → Prop} {T : List Ent} {R : List Txt} {mt : Nat} {v : Value} {D : DataW Unit} {β : Txt → Nat}
theorem BlobIs.look_in (h : BlobIs w pb p N T R mt v D β) {m : Txt} (hm : m ∈ keysE T) (hl : m.length ≤ 140737488351232) : (Instr.lookup 71 (.map (some mt)) (.string ⟨m.toArray⟩) false).run Tryz.prog w = .ok (.pointer (some ⟨β m, 0, none⟩)) w := by
  obtain ⟨u, ps, hrun, hv⟩ := h.own.lookup keyLaw Tryz.underlying71 (zeroPtr w) (zd := litNo) (zp := []) rfl (keyOf_txt m hl)
  rw [h.tab.at' m hm] at hv
  rw [hrun, ptrElem_inv hv]
theorem BlobIs.look_no (h : BlobIs w pb p N T R mt v D β) {m : Txt} (hm : m ∉ keysE T) (hl : m.length ≤ 140737488351232) : (Instr.lookup 71 (.map (some mt)) (.string ⟨m.toArray⟩) false).run Tryz.prog w = .ok (.pointer none) w := by
  obtain ⟨u, ps, hrun, hv⟩ := h.own.lookup keyLaw Tryz.underlying71 (zeroPtr w) (zd := litNo) (zp := []) rfl (keyOf_txt m hl)
  rw [Maps.atKey_of_not_has (by rw [h.tab.has]; exact decide_eq_false hm)] at hv
  rw [hrun, ptrElem_no hv]
/-- A text's number of leads, turned. -/
theorem BlobIs.turn (h : BlobIs w pb p N T R mt v D β) {m : Txt} {x : Ent} (hx : getE T m = some x) (n : Nat) (f : Ent → Ent) (hf : ∀ y, (f y).m = y.m) (hs : ∀ y, (f y).s = y.s) (hn : ∀ y ∈ T, (f y).n = if y.m = m then n else y.n) (hok : TOk (T.map f)) :
    BlobIs (w.setCell ⟨β m, 1, none⟩ (.int .i64 (n : Int))) pb p N (T.map f) R mt v D β ∧ Kept N w (w.setCell ⟨β m, 1, none⟩ (.int .i64 (n : Int))) := by
  obtain ⟨hxm, hxe⟩ := getE_some hx
  have hmk : m ∈ keysE T := mem_keysE.2 ⟨x, hxm, hxe⟩
  have hk : Kept N w (w.setCell ⟨β m, 1, none⟩ (.int .i64 (n : Int))) := (Kept.refl N w).setCell (h.ne m hmk) _
  have he := h.ent x hxm
  rw [hxe] at he
  have hk1 : Kept (· = β m) w (w.setCell ⟨β m, 1, none⟩ (.int .i64 (n : Int))) := (Kept.refl (· = β m) w).setCell rfl _
  have nbx : pb ≠ β m := fun e => by have := h.box; rw [e, he] at this; injection this with this; injection this with _ t _; exact absurd t (by decide)
  have nmx : mt ≠ β m := fun e => by obtain ⟨es, cl, hb, _⟩ := h.own; rw [e, he] at hb; cases hb
  have nrx : ∀ g, v.ownBlock = some g → g ≠ β m := fun g hg e => by obtain ⟨_, _, cur, hc⟩ := h.row.lt hg; rw [e, he] at hc; injection hc with hc; injection hc with _ t _; exact absurd t (by decide)
  refine ⟨⟨hk1.old h.box nbx, ?_, h.tab.same (keysE_map hf), hok, ?_, ?_, h.row.kept hk1 nrx, h.nb, h.nm, ?_, h.nr, ?_, h.rs⟩, hk⟩
  · obtain ⟨es, cl, hb, F, hsz, hD⟩ := h.own
    exact ⟨es, cl, hk1.old hb nmx, F, by rw [List.length_map]; exact hsz, hD⟩
  · intro y' hy'
    obtain ⟨y, hy, rfl⟩ := List.mem_map.1 hy'
    rw [hf, hs, hn y hy]
    by_cases e : y.m = m
    · rw [if_pos e]
      have := h.ent y hy
      rw [e] at this ⊢
      rw [heap_setCell_same w (β m) 1 _ _ _ this]
      rfl
    · rw [if_neg e]
      exact hk1.old (h.ent y hy) (fun e2 => e (h.inj _ (mem_keysE.2 ⟨y, hy, rfl⟩) _ hmk e2))
  · rw [keysE_map hf]; exact h.inj
  · rw [keysE_map hf]; exact h.ne
  · intro g hg
    exact Nat.lt_of_lt_of_le (h.lt g hg) hk1.size
end
theorem fst_bump {T : List Ent} (m : Txt) {x : Ent} (hT : TOk T) (hx : getE T m = some x) : ∀ y ∈ T, (bumpE m y).n = if y.m = m then x.n + 1 else y.n := fun y hy => by
  unfold bumpE
  by_cases e : y.m = m
  · rw [if_pos e, if_pos e]
    have := getE_of hT.nd hy
    rw [e, hx] at this
    injection this with this
    rw [this]
  · rw [if_neg e, if_neg e]
theorem fst_less {T : List Ent} (m : Txt) {x : Ent} (hT : TOk T) (hx : getE T m = some x) : ∀ y ∈ T, (lessE m y).n = if y.m = m then x.n - 1 else y.n := fun y hy => by
  unfold lessE
  by_cases e : y.m = m
  · rw [if_pos e, if_pos e]
    have := getE_of hT.nd hy
    rw [e, hx] at this
    injection this with this
    rw [this]
  · rw [if_neg e, if_neg e]

theorem bookReady_any (w : World) (p bm : Nat) (S : List Txt) (h : IdealAt w p bm S) :
    Calls Tryz.prog 61 #[.pointer (some ⟨p, 0, none⟩)] w fun e w' => e = .returned (.bool true) ∧ w = w' := by
  have C1 := Lib.hid (isReal_any w p none (some bm) h.book)
  have C2 := Lib.hid (isIdeal_any w p none (some bm) h.book)
  clear h
  go_enter Tryz.func61, Tryz.ntmps61
  go_wp2_with fail
  refine C1.out.mono ?_
  rintro e w' ⟨rfl, rfl⟩
  go_wp2_with fail
  refine C2.out.mono ?_
  rintro e w' ⟨rfl, rfl⟩
  go_wp2
  go_ret
  exact ⟨rfl, rfl⟩
theorem bookReady_nil (w : World) :
    Calls Tryz.prog 61 #[.pointer none] w fun e w' => e = .returned (.bool false) ∧ w = w' := by
  have C1 := Lib.hid (isReal_nil w)
  have C2 := Lib.hid (isIdeal_nil w)
  go_enter Tryz.func61, Tryz.ntmps61
  go_wp2_with fail
  refine C1.out.mono ?_
  rintro e w' ⟨rfl, rfl⟩
  go_wp2_with fail
  refine C2.out.mono ?_
  rintro e w' ⟨rfl, rfl⟩
  go_wp2
  go_ret
  exact ⟨rfl, rfl⟩
theorem bReady_any (w : World) (pb p bm : Nat) (N : Nat → Prop) (S : List Txt) (T : List Ent) (R : List Txt) (h : BW w pb p bm N S T R) :
    Calls Tryz.prog 37 #[.pointer (some ⟨pb, 0, none⟩)] w fun e w' => e = .returned (.bool true) ∧ w = w' := by
  have C1 := Lib.hid (bookReady_any w p bm S h.id)
  obtain ⟨mt, v, D, β, hb⟩ := h.blob
  have c0 := hb.c0
  clear h hb
  go_enter Tryz.func37, Tryz.ntmps37
  go_wp2_with fail
  refine C1.out.mono ?_
  rintro e w' ⟨rfl, rfl⟩
  go_wp2
  go_ret
  exact ⟨rfl, rfl⟩
end Go.Proofs.YtamiacmnobklaaaGreatDoor
/- Landed blob: lead, walked. -/
set_option linter.unusedVariables false
namespace Go.Proofs.YtamiacmnobklaaaGreatDoor
open Go.RowKit

/-- A text that is kept newly. -/
theorem BlobIs.put_new {w : World} {pb p : Nat} {N : Nat → Prop} {T : List Ent} {R : List Txt} {mt : Nat} {v : Value} {D : DataW Unit} {β : Txt → Nat} (h : BlobIs w pb p N T R mt v D β) {m s : Txt} (hm : m ∉ keysE T) (hl : m.length ≤ 140737488351232) (hs : s.length ≤ 65536) (hT : T.length ≤ 1000000)
    (w1 : World) (hb : Below w.heap.size w w1) (g : Nat) (hg : w.heap.size ≤ g) (hc : w1.heap[g]? = some (.cells #[.string ⟨s.toArray⟩, .int .i64 0] 87 (0, 0))) :
    ∃ w2, (Instr.mapUpdate 71 (.map (some mt)) (.string ⟨m.toArray⟩) (.pointer (some ⟨g, 0, none⟩))).run Tryz.prog w1 = .ok () w2 ∧ w2.cell? ⟨g, 1, none⟩ = some (.int .i64 0) ∧ w2.frozen? ⟨g, 1, none⟩ = false ∧
      BlobAt (w2.setCell ⟨g, 1, none⟩ (.int .i64 1)) pb p (fun k => N k ∨ k = g) (putE T m s) R ∧ Kept N w (w2.setCell ⟨g, 1, none⟩ (.int .i64 1)) := by
  have k1 : Kept (fun _ => False) w w1 := Kept.new hb _
  have h1 := h.kept k1 (fun _ _ => id)
  obtain ⟨w2, hrun, hown2, hg2⟩ := h1.own.update keyLaw Tryz.underlying71 (by unfold maxLen; omega) (keyOf_txt m hl) (val := .pointer (some ⟨g, 0, none⟩)) (d := litP g) (ps := []) rfl
  have k2 : Kept (· = mt) w1 w2 := Kept.of_grown hg2
  have hmt := h.lt _ h.nm
  have hgm : g ≠ mt := by omega
  have hc2 := k2.old hc hgm
  have k3 : Kept (· = g) w2 (w2.setCell ⟨g, 1, none⟩ (.int .i64 1)) := (Kept.refl (· = g) w2).setCell rfl _
  have kk : Kept (fun k => k = mt ∨ k = g) w (w2.setCell ⟨g, 1, none⟩ (.int .i64 1)) := ((k1.mono (fun k _ hf => hf.elim)).trans (k2.mono (fun k _ e => .inl e))).trans (k3.mono (fun k _ e => .inr e))
  have off : ∀ k, k < w.heap.size → k ≠ mt → ¬ (k = mt ∨ k = g) := fun k hk hne hor => by rcases hor with e | e; exact hne e; omega
  have nbm : pb ≠ mt := fun e => by obtain ⟨es, cl, hb2, _⟩ := h.own; have := h.box; rw [e, hb2] at this; cases this
  have nrm : ∀ k, v.ownBlock = some k → k ≠ mt := fun k hk e => by obtain ⟨_, _, cur, hcur⟩ := h.row.lt hk; obtain ⟨es, cl, hb2, _⟩ := h.own; rw [e, hb2] at hcur; cases hcur
  have nem : ∀ x ∈ T, β x.m ≠ mt := fun x hx e => by have := h.ent x hx; obtain ⟨es, cl, hb2, _⟩ := h.own; rw [e, hb2] at this; cases this
  have hkeys : keysE (putE T m s) = keysE T ++ [m] := by unfold putE; rw [if_neg hm]; unfold keysE; rw [List.map_append]; rfl
  have hput : putE T m s = T ++ [⟨m, s, 1⟩] := by unfold putE; rw [if_neg hm]
  have hng : ∀ k ∈ keysE T, β k < w.heap.size := fun k hk => h.lt _ (h.ne k hk)
  refine ⟨w2, hrun, by rw [cell_of_row _ _ _ _ _ _ hc2]; rfl, frozen_of_row w2 g 1 _ _ hc2, ⟨mt, v, _, newB β m g, ⟨kk.old h.box (off _ (h.lt _ h.nb) nbm), ?_, h.tab.put m s g hm, h.ok.put m s hs, ?_, ?_, h.row.kept kk (fun k hk => off k (h.lt _ (h.nr k hk)) (nrm k hk)), .inl h.nb, .inl h.nm, ?_, fun k hk => .inl (h.nr k hk), ?_, h.rs⟩⟩, ?_⟩
  · obtain ⟨es, cl, hb2, rest⟩ := hown2
    refine ⟨es, cl, k3.old hb2 (fun e => hgm e.symm), ?_⟩
    rw [hput, List.length_append]
    exact rest
  · intro x hx
    rw [hput] at hx
    rcases List.mem_append.1 hx with hx | hx
    · have hne : x.m ≠ m := fun e => hm (mem_keysE.2 ⟨x, hx, e⟩)
      rw [newB_other _ _ hne]
      exact kk.old (h.ent x hx) (off _ (hng _ (mem_keysE.2 ⟨x, hx, rfl⟩)) (nem x hx))
    · simp at hx
      subst hx
      show (w2.setCell ⟨g, 1, none⟩ (.int .i64 1)).heap[newB β m g m]? = _
      rw [newB_same, heap_setCell_same w2 g 1 _ _ _ hc2]
      rfl
  · intro a ha b hb e
    rw [hkeys] at ha hb
    have case : ∀ k, k ∈ keysE T ++ [m] → (k ∈ keysE T ∧ k ≠ m) ∨ k = m := fun k hk => by
      rcases List.mem_append.1 hk with c | c
      · exact .inl ⟨c, fun e => hm (e ▸ c)⟩
      · simp at c; exact .inr c
    rcases case a ha with ⟨ca, na⟩ | ca
    · rcases case b hb with ⟨cb, nb⟩ | cb
      · rw [newB_other _ _ na, newB_other _ _ nb] at e
        exact h.inj a ca b cb e
      · subst cb
        rw [newB_other _ _ na, newB_same] at e
        have := hng a ca
        omega
    · subst ca
      rcases case b hb with ⟨cb, nb⟩ | cb
      · rw [newB_other _ _ nb, newB_same] at e
        have := hng b cb
        omega
      · exact cb.symm
  · intro k hk
    by_cases e : k = m
    · subst e; rw [newB_same]; exact .inr rfl
    · rw [newB_other _ _ e]
      rw [hkeys] at hk
      rcases List.mem_append.1 hk with c | c
      · exact .inl (h.ne k c)
      · simp at c; exact absurd c e
  · intro k hk
    have hsz := kk.size
    rcases hk with c | c
    · have := h.lt k c; omega
    · subst c
      have := (Array.getElem?_eq_some_iff.1 hc2).1
      exact Nat.lt_of_lt_of_le this k3.size
  · exact kk.mono (fun k hk e => by rcases e with e | e; exact e ▸ h.nm; omega)

set_option maxRecDepth 100000 in
set_option maxHeartbeats 1000000 in
theorem bLead_in (w : World) (pb p : Nat) (N : Nat → Prop) (T : List Ent) (R : List Txt) (m s : Txt) (x : Ent) (hx : getE T m = some x) (h : BlobAt w pb p N T R) (hl : m.length ≤ 140737488351232) (hn : x.n ≤ 1000000) :
    Calls Tryz.prog 41 #[.pointer (some ⟨pb, 0, none⟩), .string ⟨m.toArray⟩, .string ⟨s.toArray⟩] w fun e w' => e = .returned (.tuple #[]) ∧ BlobAt w' pb p N (putE T m s) R ∧ Kept N w w' := by
  obtain ⟨mt, v, D, β, h⟩ := h
  obtain ⟨hxm, hxe⟩ := getE_some hx
  have hmk : m ∈ keysE T := mem_keysE.2 ⟨x, hxm, hxe⟩
  have hput : putE T m s = T.map (bumpE m) := by unfold putE; rw [if_pos hmk]
  have hok2 : TOk (T.map (bumpE m)) := by
    have := h.ok.put m [] (by simp)
    unfold putE at this
    rw [if_pos hmk] at this
    exact this
  have H2 := Lib.hid (h.turn hx (x.n + 1) (bumpE m) (bumpE_m m) (bumpE_s m) (fst_bump m h.ok hx) hok2)
  have L := h.look_in hmk hl
  have c1 := h.c1
  have e1 := h.e1 hxm
  have hfr := frozen_of_row w (β x.m) 1 _ _ (h.ent x hxm)
  rw [hxe] at e1 hfr
  generalize β m = g at *
  have HP := Lib.hid hput
  clear hput hok2 h hxm hxe hmk hx
  have q0 : (x.n : Int) + 1 ≤ 9223372036854775807 := by omega
  have q1 : 0 ≤ (x.n : Int) := by omega
  rw [show ((x.n + 1 : Nat) : Int) = (x.n : Int) + 1 from by omega] at H2
  generalize (x.n : Int) = n at *
  go_enter Tryz.func41, Tryz.ntmps41
  go_wp2
  go_end0
  rw [HP.out]
  exact ⟨rfl, ⟨mt, v, D, β, H2.out.1⟩, H2.out.2⟩
set_option maxRecDepth 100000 in
set_option maxHeartbeats 1000000 in
theorem bLead_new (w : World) (pb p : Nat) (N : Nat → Prop) (T : List Ent) (R : List Txt) (m s : Txt) (hm : m ∉ keysE T) (h : BlobAt w pb p N T R) (hl : m.length ≤ 140737488351232) (hs : s.length ≤ 65536) (hT : T.length ≤ 1000000) :
    Calls Tryz.prog 41 #[.pointer (some ⟨pb, 0, none⟩), .string ⟨m.toArray⟩, .string ⟨s.toArray⟩] w fun e w' => e = .returned (.tuple #[]) ∧ ∃ N', BlobAt w' pb p N' (putE T m s) R ∧ Kept N w w' ∧ ∀ k, N' k → N k ∨ w.heap.size ≤ k := by
  obtain ⟨mt, v, D, β, h⟩ := h
  have L := h.look_no hm hl
  have c1 := h.c1
  have hpb := h.lt _ h.nb
  have CM := fun w' => Lib.hid (clone_any m w' hl)
  have CS := fun w' => Lib.hid (clone_any s w' (by omega))
  have PN := Lib.hid (fun (w1 : World) (hb : Below w.heap.size w w1) (g : Nat) (hg : w.heap.size ≤ g) hc => h.put_new hm hl hs hT w1 hb g hg hc)
  clear h hm
  go_enter Tryz.func41, Tryz.ntmps41
  go_wp2_with (go_at_call 42; refine (CS _).out.mono ?_; rintro e w1 ⟨rfl, hb1⟩; have HB1 := Lib.hid hb1; clear hb1)
  have hc0 : (w1.alloc (.cells #[.string ⟨s.toArray⟩, .int .i64 0] 87)).heap[w1.heap.size]? = some (.cells #[.string ⟨s.toArray⟩, .int .i64 0] 87 (0, 0)) := heap_alloc_new _ _
  have hbA : Below w.heap.size w (w1.alloc (.cells #[.string ⟨s.toArray⟩, .int .i64 0] 87)) := HB1.out.alloc HB1.out.size _
  have hg := HB1.out.size
  generalize hgg : w1.heap.size = g at *
  generalize hwA : w1.alloc (.cells #[.string ⟨s.toArray⟩, .int .i64 0] 87) = wA at *
  have hgA : g < wA.heap.size := (Array.getElem?_eq_some_iff.1 hc0).1
  clear hwA hgg HB1
  have c1' : wA.cell? ⟨pb, 1, none⟩ = some (.map (some mt)) := (hbA.cell (p := ⟨pb, 1, none⟩) hpb).trans c1
  have UPD := Lib.hid (fun (w1 : World) (hb : Below wA.heap.size wA.drew w1) => show ∃ w2, (Instr.mapUpdate 71 (.map (some mt)) (.string ⟨m.toArray⟩) (.pointer (some ⟨g, 0, none⟩))).run Tryz.prog w1 = .ok () w2 ∧ w1.cell? ⟨pb, 1, none⟩ = some (.map (some mt)) ∧ w2.cell? ⟨g, 1, none⟩ = some (.int .i64 0) ∧ w2.frozen? ⟨g, 1, none⟩ = false ∧
      Hid (BlobAt (w2.setCell ⟨g, 1, none⟩ (.int .i64 1)) pb p (fun k => N k ∨ k = g) (putE T m s) R ∧ Kept N w (w2.setCell ⟨g, 1, none⟩ (.int .i64 1))) by
    have hb2 : Below wA.heap.size wA w1 := (Below_drew (Below.refl _ wA)).trans hb
    have hw1 : Below w.heap.size w w1 := hbA.trans (hb2.mono hbA.size)
    obtain ⟨w2, r1, r2, r3, r4, r5⟩ := PN.out w1 hw1 g hg ((hb2.block g hgA).trans hc0)
    exact ⟨w2, r1, (hw1.cell (p := ⟨pb, 1, none⟩) hpb).trans c1, r2, r3, Lib.hid ⟨r4, r5⟩⟩)
  have HG := Lib.hid hg
  clear PN hbA hc0 c1 hpb CS hg hgA
  go_region_with (go_at_call 42; refine (CM _).out.mono ?_; rintro e w3 ⟨rfl, hb3⟩; obtain ⟨w2, hrun, d2, c2, f2, h2⟩ := UPD.out w3 hb3)
  all_goals
    go_wp2
    go_end0
    exact ⟨rfl, _, h2.out.1, h2.out.2, fun k hk => by rcases hk with c | c; exact .inl c; exact .inr (c ▸ HG.out)⟩
end Go.Proofs.YtamiacmnobklaaaGreatDoor
/- Landed blob: Put, Get, Refs, Drop, Count, over their book, walked. -/
set_option linter.unusedVariables false
namespace Go.Proofs.YtamiacmnobklaaaGreatDoor
open Go.RowKit

section
variable {w w' : World} {pb p bm : Nat} {N N' : Nat → Prop} {S : List Txt} {T T' : List Ent} {R R' : List Txt}
/-- A call that turned the blobs' own blocks alone. -/
theorem BW.step (h : BW w pb p bm N S T R) (hb : BlobAt w' pb p N' T' R') (hk : Kept N w w') (hm : ∀ k, N' k → N k ∨ w.heap.size ≤ k) : BW w' pb p bm N' S T' R' ∧ BTurn w w' bm N N' := by
  have hl := h.id.lt
  refine ⟨⟨hb, h.id.kept hk h.np h.nm, fun c => ?_, fun c => ?_⟩, ⟨hk.mono (fun k _ c => .inl c), hm⟩⟩
  · rcases hm _ c with c | c
    · exact h.np c
    · omega
  · rcases hm _ c with c | c
    · exact h.nm c
    · omega
/-- A text was marked. -/
theorem BW.marked {U : List Txt} (h : BW w pb p bm N S T R) (hid : IdealAt w' p bm U) (hk : Kept (· = bm) w w') : BW w' pb p bm N U T R ∧ BTurn w w' bm N N :=
  ⟨⟨h.blob.kept hk (fun g hg e => h.nm (e ▸ hg)), hid, h.np, h.nm⟩, ⟨hk.mono (fun k _ e => .inr e), fun _ c => .inl c⟩⟩
theorem BW.lens (h : BW w pb p bm N S T R) : pb < w.heap.size ∧ p < w.heap.size ∧ bm < w.heap.size := ⟨h.blob.lt.1, h.id.lt⟩
end

theorem bLead_any (w : World) (pb p bm : Nat) (N : Nat → Prop) (S : List Txt) (T : List Ent) (R : List Txt) (m s : Txt) (h : BW w pb p bm N S T R) (hl : m.length ≤ 140737488351232) (hs : s.length ≤ 65536) {k : Nat} (hk : TB k T) (hk2 : k ≤ 1000000) :
    Calls Tryz.prog 41 #[.pointer (some ⟨pb, 0, none⟩), .string ⟨m.toArray⟩, .string ⟨s.toArray⟩] w fun e w' => e = .returned (.tuple #[]) ∧ ∃ N', BW w' pb p bm N' S (putE T m s) R ∧ BTurn w w' bm N N' := by
  by_cases hm : m ∈ keysE T
  · obtain ⟨x, hx, hxm, _⟩ := getE_in hm
    refine (bLead_in w pb p N T R m s x hx h.blob hl (by have := hk.ref x hxm; omega)).mono ?_
    rintro e w' ⟨rfl, hb, hkp⟩
    exact ⟨rfl, N, h.step hb hkp (fun _ c => .inl c)⟩
  · refine (bLead_new w pb p N T R m s hm h.blob hl hs (by have := hk.len; omega)).mono ?_
    rintro e w' ⟨rfl, N', hb, hkp, hmv⟩
    exact ⟨rfl, N', h.step hb hkp hmv⟩

set_option maxRecDepth 100000 in
theorem bPut_any (w : World) (pb p bm : Nat) (N : Nat → Prop) (S : List Txt) (T : List Ent) (R : List Txt) (s : Txt) (h : BW w pb p bm N S T R) (hs : s.length ≤ 65536) {k : Nat} (hk : TB k T) (hk2 : k ≤ 1000000) (hS : S.length ≤ 1000000) :
    Calls Tryz.prog 16 #[.pointer (some ⟨pb, 0, none⟩), .string ⟨s.toArray⟩] w fun e w' => e = .returned (.tuple #[.string ⟨(numM (noS S s)).toArray⟩, .int .i64 0]) ∧ ∃ N', BW w' pb p bm N' (markS S s) (putE T (numM (noS S s)) s) R ∧ BTurn w w' bm N N' := by
  have RD := Lib.hid (bReady_any w pb p bm N S T R h)
  have MK := Lib.hid (mark_ideal w p bm S s h.id (by omega) hS)
  have LE := fun w' => Lib.hid (fun (h' : BW w' pb p bm N (markS S s) T R) => bLead_any w' pb p bm N (markS S s) T R (numM (noS S s)) s h' (by rw [numM_length]; omega) hs hk hk2)
  have c0 : w.cell? ⟨pb, 0, none⟩ = some (.pointer (some ⟨p, 0, none⟩)) := by obtain ⟨mt, v, D, β, hb⟩ := h.blob; exact hb.c0
  have HB := Lib.hid h
  have q : ¬ (65536 : Int) < (s.length : Int) := by omega
  have SL := Lib.hid (show (⟨s.toArray⟩ : ByteArray).size = s.length from rfl)
  clear h hk hS
  generalize numM (noS S s) = m at *
  generalize markS S s = U at *
  go_enter Tryz.func16, Tryz.ntmps16
  go_wp2_with fail
  refine RD.out.mono ?_
  rintro e w' ⟨rfl, rfl⟩
  go_wp2_with fail
  refine MK.out.mono ?_
  rintro e w1 ⟨rfl, hid, hk⟩
  obtain ⟨h1, t1⟩ := HB.out.marked hid hk
  have T1 := Lib.hid t1
  have L1 := Lib.hid ((LE w1).out h1)
  clear h1 t1 hid hk LE
  go_wp2_with fail
  refine L1.out.mono ?_
  rintro e w2 ⟨rfl, N', h2, t2⟩
  go_wp2
  go_ret2
  exact ⟨rfl, N', h2, T1.out.trans t2⟩
set_option maxRecDepth 100000 in
theorem bPut_long (w : World) (pb p bm : Nat) (N : Nat → Prop) (S : List Txt) (T : List Ent) (R : List Txt) (s : Txt) (h : BW w pb p bm N S T R) (hs : 65536 < s.length) (hs2 : s.length ≤ 140737488351232) :
    Calls Tryz.prog 16 #[.pointer (some ⟨pb, 0, none⟩), .string ⟨s.toArray⟩] w fun e w' => e = .returned (.tuple #[.string ByteArray.empty, .int .i64 4]) ∧ w = w' := by
  have RD := Lib.hid (bReady_any w pb p bm N S T R h)
  have q : (65536 : Int) < (s.length : Int) := by omega
  clear h
  go_enter Tryz.func16, Tryz.ntmps16
  go_wp2_with fail
  refine RD.out.mono ?_
  rintro e w' ⟨rfl, rfl⟩
  go_wp2
  go_ret2
  exact ⟨rfl, rfl⟩

/-- What Get tells. -/
def gotE (T : List Ent) (m : Txt) : Txt × Int := match getE T m with
  | some x => (x.s, 0)
  | none => ([], 8)
theorem gotE_in {T : List Ent} {m : Txt} {x : Ent} (h : getE T m = some x) : gotE T m = (x.s, 0) := by unfold gotE; rw [h]
theorem gotE_no {T : List Ent} {m : Txt} (h : m ∉ keysE T) : gotE T m = ([], 8) := by unfold gotE; rw [getE_none.2 h]
set_option maxRecDepth 100000 in
theorem bGet_any (w : World) (pb p bm : Nat) (N : Nat → Prop) (S : List Txt) (T : List Ent) (R : List Txt) (m : Txt) (h : BW w pb p bm N S T R) (hl : m.length ≤ 140737488351232) :
    Calls Tryz.prog 29 #[.pointer (some ⟨pb, 0, none⟩), .string ⟨m.toArray⟩] w fun e w' => e = .returned (.tuple #[.string ⟨(gotE T m).1.toArray⟩, .int .i64 (gotE T m).2]) ∧ Below w.heap.size w w' := by
  have RD := Lib.hid (bReady_any w pb p bm N S T R h)
  obtain ⟨mt, v, D, β, hb⟩ := h.blob
  have c1 := hb.c1
  by_cases hm : m ∈ keysE T
  · obtain ⟨x, hx, hxm, hxe⟩ := getE_in hm
    have L := hb.look_in hm hl
    have e0 := hb.e0 hxm
    have CS := Lib.hid (clone_any x.s w (by have := hb.ok.sm x hxm; omega))
    rw [hxe] at e0
    rw [gotE_in hx]
    clear h hb hm hx hxm hxe
    obtain ⟨xm, xs, xn⟩ := x
    dsimp only at *
    generalize β m = g at *
    go_enter Tryz.func29, Tryz.ntmps29
    go_wp2_with fail
    refine RD.out.mono ?_
    rintro e w' ⟨rfl, rfl⟩
    go_wp2_with fail
    refine CS.out.mono ?_
    rintro e w2 ⟨rfl, hb2⟩
    go_wp2
    go_ret2
    exact ⟨rfl, hb2⟩
  · have L := hb.look_no hm hl
    rw [gotE_no hm]
    clear h hb hm
    go_enter Tryz.func29, Tryz.ntmps29
    go_wp2_with fail
    refine RD.out.mono ?_
    rintro e w' ⟨rfl, rfl⟩
    go_wp2
    go_ret2
    exact ⟨rfl, Below.refl _ _⟩
set_option maxRecDepth 100000 in
theorem bRefs_any (w : World) (pb p bm : Nat) (N : Nat → Prop) (S : List Txt) (T : List Ent) (R : List Txt) (m : Txt) (h : BW w pb p bm N S T R) (hl : m.length ≤ 140737488351232) :
    Calls Tryz.prog 23 #[.pointer (some ⟨pb, 0, none⟩), .string ⟨m.toArray⟩] w fun e w' => e = .returned (.int .i64 (refsE T m : Nat)) ∧ w = w' := by
  have RD := Lib.hid (bReady_any w pb p bm N S T R h)
  obtain ⟨mt, v, D, β, hb⟩ := h.blob
  have c1 := hb.c1
  by_cases hm : m ∈ keysE T
  · obtain ⟨x, hx, hxm, hxe⟩ := getE_in hm
    have L := hb.look_in hm hl
    have e1 := hb.e1 hxm
    rw [hxe] at e1
    rw [refsE_some hx]
    clear h hb hm hx hxm hxe
    generalize x.n = n at *
    generalize β m = g at *
    go_enter Tryz.func23, Tryz.ntmps23
    go_wp2_with fail
    refine RD.out.mono ?_
    rintro e w' ⟨rfl, rfl⟩
    go_wp2
    go_ret
    exact ⟨rfl, rfl⟩
  · have L := hb.look_no hm hl
    rw [refsE_none hm]
    clear h hb hm
    go_enter Tryz.func23, Tryz.ntmps23
    go_wp2_with fail
    refine RD.out.mono ?_
    rintro e w' ⟨rfl, rfl⟩
    go_wp2
    go_ret
    exact ⟨rfl, rfl⟩
set_option maxRecDepth 100000 in
theorem bCount_any (w : World) (pb p bm : Nat) (N : Nat → Prop) (S : List Txt) (T : List Ent) (R : List Txt) (h : BW w pb p bm N S T R) :
    Calls Tryz.prog 27 #[.pointer (some ⟨pb, 0, none⟩)] w fun e w' => e = .returned (.int .i64 (T.length : Nat)) ∧ w = w' := by
  have RD := Lib.hid (bReady_any w pb p bm N S T R h)
  obtain ⟨mt, v, D, β, hb⟩ := h.blob
  have c1 := hb.c1
  have L := fun ty => hb.own.len Tryz.underlying71 ty
  simp only [hb.tab.size] at L
  clear h hb
  generalize T.length = n at *
  go_enter Tryz.func27, Tryz.ntmps27
  go_wp2_with fail
  refine RD.out.mono ?_
  rintro e w' ⟨rfl, rfl⟩
  go_wp2
  go_ret
  exact ⟨rfl, rfl⟩
/-- Drop of one that is not kept. -/
theorem bDrop_no (w : World) (pb p bm : Nat) (N : Nat → Prop) (S : List Txt) (T : List Ent) (R : List Txt) (m : Txt) (h : BW w pb p bm N S T R) (hl : m.length ≤ 140737488351232) (hm : m ∉ keysE T) :
    Calls Tryz.prog 19 #[.pointer (some ⟨pb, 0, none⟩), .string ⟨m.toArray⟩] w fun e w' => e = .returned (.int .i64 8) ∧ w = w' := by
  have RD := Lib.hid (bReady_any w pb p bm N S T R h)
  obtain ⟨mt, v, D, β, hb⟩ := h.blob
  have c1 := hb.c1
  have L := hb.look_no hm hl
  clear h hb hm
  go_enter Tryz.func19, Tryz.ntmps19
  go_wp2_with fail
  refine RD.out.mono ?_
  rintro e w' ⟨rfl, rfl⟩
  go_wp2
  go_ret
  exact ⟨rfl, rfl⟩
set_option maxRecDepth 100000 in
set_option maxHeartbeats 1000000 in
/-- Drop of one to which more lead. -/
theorem bDrop_more (w : World) (pb p bm : Nat) (N : Nat → Prop) (S : List Txt) (T : List Ent) (R : List Txt) (m : Txt) (h : BW w pb p bm N S T R) (hl : m.length ≤ 140737488351232) (hm : m ∈ keysE T) (hr : refsE T m ≠ 1) {k : Nat} (hk : TB k T) (hk2 : k ≤ 1000000) :
    Calls Tryz.prog 19 #[.pointer (some ⟨pb, 0, none⟩), .string ⟨m.toArray⟩] w fun e w' => e = .returned (.int .i64 0) ∧ ∃ N', BW w' pb p bm N' S (dropE T m) R ∧ BTurn w w' bm N N' := by
  have RD := Lib.hid (bReady_any w pb p bm N S T R h)
  obtain ⟨mt, v, D, β, hb⟩ := h.blob
  have c1 := hb.c1
  obtain ⟨x, hx, hxm, hxe⟩ := getE_in hm
  rw [refsE_some hx] at hr
  have hxb := hk.ref x hxm
  have hxp := hb.ok.pos x hxm
  have L := hb.look_in hm hl
  have e1 := hb.e1 hxm
  have hfr := frozen_of_row w (β x.m) 1 _ _ (hb.ent x hxm)
  have hd : dropE T m = T.map (lessE m) := by unfold dropE; rw [refsE_some hx, if_neg hr]
  have hok : TOk (T.map (lessE m)) := by have := hb.ok.drop m; rwa [hd] at this
  obtain ⟨n, hn⟩ : ∃ n : Nat, x.n = n + 2 := ⟨x.n - 2, by omega⟩
  have H2 := hb.turn hx (n + 1) (lessE m) (lessE_m m) (lessE_s m) (fun y hy => by rw [fst_less m hb.ok hx y hy, hn]; rfl) hok
  have HF := Lib.hid (show BW (w.setCell ⟨β m, 1, none⟩ (.int .i64 ((n + 1 : Nat) : Int))) pb p bm N S (dropE T m) R ∧ BTurn w (w.setCell ⟨β m, 1, none⟩ (.int .i64 ((n + 1 : Nat) : Int))) bm N N by
    rw [hd]; exact h.step ⟨mt, v, D, β, H2.1⟩ H2.2 (fun _ c => .inl c))
  rw [hxe] at e1 hfr
  rw [hn] at e1 hxb
  have q : ((n + 2 : Nat) : Int) - 1 = ((n + 1 : Nat) : Int) := by omega
  have q2 : (((n + 1 : Nat) : Int) == 0) = false := by rw [beq_eq_false_iff_ne]; omega
  have c2 : (w.setCell ⟨β m, 1, none⟩ (.int .i64 ((n + 1 : Nat) : Int))).cell? ⟨β m, 1, none⟩ = some (.int .i64 ((n + 1 : Nat) : Int)) := by
    have := hb.ent x hxm
    rw [hxe] at this
    have e := heap_setCell_same w (β m) 1 _ _ (.int .i64 ((n + 1 : Nat) : Int)) this
    rw [cell_of_row _ _ _ _ _ _ e]
    rfl
  clear h hb H2 hok hd hm hx hxm hxe hxp hr hn hk
  generalize β m = g at *
  have q3 : ((n + 2 : Nat) : Int) - 1 ≤ 9223372036854775807 := by omega
  have q4 : 0 < ((n + 2 : Nat) : Int) - 1 := by omega
  have q5 : ¬ ((n + 2 : Nat) : Int) - 1 = 0 := by omega
  rw [← q] at HF q2 c2
  generalize ((n + 2 : Nat) : Int) = i2 at *
  clear q hxb
  go_enter Tryz.func19, Tryz.ntmps19
  go_wp2_with fail
  refine RD.out.mono ?_
  rintro e w' ⟨rfl, rfl⟩
  go_wp2_with fail
  go_ret
  exact ⟨rfl, N, HF.out⟩
set_option maxRecDepth 100000 in
set_option maxHeartbeats 1000000 in
/-- Drop of one to which but one leads. -/
theorem bDrop_last (w : World) (pb p bm : Nat) (N : Nat → Prop) (S : List Txt) (T : List Ent) (R : List Txt) (m : Txt) (h : BW w pb p bm N S T R) (hl : m.length ≤ 140737488351232) (hm : m ∈ keysE T) (hr : refsE T m = 1) :
    Calls Tryz.prog 19 #[.pointer (some ⟨pb, 0, none⟩), .string ⟨m.toArray⟩] w fun e w' => e = .returned (.int .i64 0) ∧ ∃ N', BW w' pb p bm N' S (dropE T m) R ∧ BTurn w w' bm N N' := by
  have RD := Lib.hid (bReady_any w pb p bm N S T R h)
  obtain ⟨mt, v, D, β, hb⟩ := h.blob
  have c1 := hb.c1
  obtain ⟨x, hx, hxm, hxe⟩ := getE_in hm
  have hd : dropE T m = delE T m := by unfold dropE; rw [if_pos hr]
  rw [refsE_some hx] at hr
  have L := hb.look_in hm hl
  have e1 := hb.e1 hxm
  have he := hb.ent x hxm
  rw [hxe] at e1 he
  rw [hr] at e1
  have hfr := frozen_of_row w (β m) 1 _ _ he
  have nbx : pb ≠ β m := fun e => by have := hb.box; rw [e, he] at this; injection this with this; injection this with _ t _; exact absurd t (by decide)
  have nmx : mt ≠ β m := fun e => by obtain ⟨es, cl, hb2, _⟩ := hb.own; rw [e, he] at hb2; cases hb2
  have nrx : ∀ g, v.ownBlock = some g → g ≠ β m := fun g hg e => by obtain ⟨_, _, cur, hc⟩ := hb.row.lt hg; rw [e, he] at hc; injection hc with hc; injection hc with _ t _; exact absurd t (by decide)
  have nbm : pb ≠ mt := fun e => by obtain ⟨es, cl, hb2, _⟩ := hb.own; have := hb.box; rw [e, hb2] at this; cases this
  have nrm : ∀ k, v.ownBlock = some k → k ≠ mt := fun k hk e => by obtain ⟨_, _, cur, hcur⟩ := hb.row.lt hk; obtain ⟨es, cl, hb2, _⟩ := hb.own; rw [e, hb2] at hcur; cases hcur
  have nem : ∀ x ∈ T, β x.m ≠ mt := fun x hx e => by have := hb.ent x hx; obtain ⟨es, cl, hb2, _⟩ := hb.own; rw [e, hb2] at this; cases this
  have hk1 : Kept (· = β m) w (w.setCell ⟨β m, 1, none⟩ (.int .i64 0)) := (Kept.refl (· = β m) w).setCell rfl _
  have hown2 := hb.own.setCell (a := ⟨β m, 1, none⟩) nmx (.int .i64 0)
  have c2 : (w.setCell ⟨β m, 1, none⟩ (.int .i64 0)).cell? ⟨β m, 1, none⟩ = some (.int .i64 0) := by
    have e := heap_setCell_same w (β m) 1 _ _ (.int .i64 0) he
    rw [cell_of_row _ _ _ _ _ _ e]
    rfl
  have c3 : (w.setCell ⟨β m, 1, none⟩ (.int .i64 0)).cell? ⟨pb, 1, none⟩ = some (.map (some mt)) := by
    rw [cell_of_row _ _ _ _ _ _ (hk1.old hb.box nbx)]
    rfl
  have HF := Lib.hid (fun (w3 : World) (hown3 : w3.ownsMap Tryz.prog 9 ptrElem mt T.length (D.del (.string m))) (ht : (w.setCell ⟨β m, 1, none⟩ (.int .i64 0)).mapTurned w3 mt) => show BW w3 pb p bm N S (dropE T m) R ∧ BTurn w w3 bm N N by
    have hk2 : Kept (· = mt) (w.setCell ⟨β m, 1, none⟩ (.int .i64 0)) w3 := Kept.of_grown ht.grown
    have kk : Kept (fun k => k = β m ∨ k = mt) w w3 := (hk1.mono (fun k _ e => .inl e)).trans (hk2.mono (fun k _ e => .inr e))
    rw [hd]
    refine h.step ⟨mt, v, _, β, kk.old hb.box (fun e => by rcases e with e | e; exact nbx e; exact nbm e), ?_, hb.tab.del hb.ok m hm, hb.ok.del m, ?_, ?_, hb.row.kept kk (fun g hg e => by rcases e with e | e; exact nrx g hg e; exact nrm g hg e), hb.nb, hb.nm, fun k hk => hb.ne k ((keysE_del T m k).1 hk).1, hb.nr, fun g hg => Nat.lt_of_lt_of_le (hb.lt g hg) kk.size, hb.rs⟩ (kk.mono (fun k _ e => by rcases e with e | e; exact e ▸ hb.ne m hm; exact e ▸ hb.nm)) (fun _ c => .inl c)
    · obtain ⟨es, cl, hb2, F, hsz, hD⟩ := hown3
      refine ⟨es, cl, hb2, F, ?_, hD⟩
      have e1 : es.size = Maps.size (D.del (.string m)) := by rw [hD, Maps.size_eq, length_sorted]; simp
      rw [e1, (hb.tab.del hb.ok m hm).size]
      exact Nat.le_refl _
    · intro y hy
      obtain ⟨hy1, hy2⟩ := List.mem_filter.1 hy
      have hne : y.m ≠ m := by simpa using hy2
      exact kk.old (hb.ent y hy1) (fun e => by
        rcases e with e | e
        · exact hne (hb.inj _ (mem_keysE.2 ⟨y, hy1, rfl⟩) _ hm e)
        · exact nem y hy1 e)
    · intro a ha b hb2 e
      exact hb.inj a ((keysE_del T m a).1 ha).1 b ((keysE_del T m b).1 hb2).1 e)
  have hkey := keyOf_txt m hl
  have HO := Lib.hid hown2
  clear h hb hown2 hd hm hx hxm hxe hr hk1 he nbx nmx nrx nbm nrm nem
  generalize β m = g at *
  go_enter Tryz.func19, Tryz.ntmps19
  go_wp2_with fail
  refine RD.out.mono ?_
  rintro e w' ⟨rfl, rfl⟩
  go_wp2_with (at_delete; refine wpList_delete_own _ rfl _ _ 71 9 rfl 85 keyLaw Tryz.underlying71 _ mt T.length D rfl HO.out _ _ rfl hkey ?_; intro w3 hown3 ht3; have H3 := Lib.hid (HF.out w3 hown3 ht3); clear hown3 ht3)
  go_ret
  exact ⟨rfl, N, H3.out⟩
theorem dropE_no {T : List Ent} {m : Txt} (hm : m ∉ keysE T) : dropE T m = T := by
  unfold dropE
  rw [refsE_none hm, if_neg (by decide)]
  have : T.map (lessE m) = T.map id := List.map_congr_left (fun x hx => by unfold lessE; rw [if_neg (fun e => hm (mem_keysE.2 ⟨x, hx, e⟩))]; rfl)
  rw [this, List.map_id]
theorem bDrop_any (w : World) (pb p bm : Nat) (N : Nat → Prop) (S : List Txt) (T : List Ent) (R : List Txt) (m : Txt) (h : BW w pb p bm N S T R) (hl : m.length ≤ 140737488351232) {k : Nat} (hk : TB k T) (hk2 : k ≤ 1000000) :
    Calls Tryz.prog 19 #[.pointer (some ⟨pb, 0, none⟩), .string ⟨m.toArray⟩] w fun e w' => e = .returned (.int .i64 (if m ∈ keysE T then 0 else 8)) ∧ ∃ N', BW w' pb p bm N' S (dropE T m) R ∧ BTurn w w' bm N N' := by
  by_cases hm : m ∈ keysE T
  · rw [if_pos hm]
    by_cases hr : refsE T m = 1
    · exact bDrop_last w pb p bm N S T R m h hl hm hr
    · exact bDrop_more w pb p bm N S T R m h hl hm hr hk hk2
  · rw [if_neg hm]
    refine (bDrop_no w pb p bm N S T R m h hl hm).mono ?_
    rintro e w' ⟨rfl, rfl⟩
    rw [dropE_no hm]
    exact ⟨rfl, N, h, BTurn.refl _ _ _⟩
end Go.Proofs.YtamiacmnobklaaaGreatDoor
