/- The document's Files and Items (two lists that are one), and Sort. -/
import Derived.Test.YtamiacmnobklaaaGreatDoorFrame
import Derived.Test.YtamiacmnobklaaaGreatDoorGen
import Derived.Test.YtamiacmnobklaaaGreatDoorOwnL
import Derived.Test.YtamiacmnobklaaaGreatDoorCdX
import Derived.Test.YtamiacmnobklaaaGreatDoorRefCheckW
import Derived.Test.YtamiacmnobklaaaGreatDoorRefRightTW
import Derived.Test.YtamiacmnobklaaaGreatDoorRowN
import Derived.Test.YtamiacmnobklaaaGreatDoorRows
import Derived.Test.YtamiacmnobklaaaGreatDoorTreeMath
import Derived.BigQuiet
import Derived.Deep.Cut
import Derived.Deep.CutRange
import Derived.Deep.DeepCutAuto
import Derived.Deep.QuietTactic
import Derived.Deep.Slices
import Derived.Deep.Strs
import Derived.Lib.Hide
import Derived.Lib.SmallJoins
import Derived.WalkKit
import Derived.WalkLawsBesides
import Derived.WalkSpells
set_option linter.unusedVariables false
namespace Go.Proofs.YtamiacmnobklaaaGreatDoor
open Go.RowKit

set_option maxRecDepth 100000 in
set_option maxHeartbeats 1000000 in
theorem filesEq_any (N1 N2 : Nat → Prop) (v1 v2 : Value) (l : List FileD) (w : World) (h1 : RowN encF 3 N1 w v1 l) (h2 : RowN encF 3 N2 w v2 l) (hl : l.length ≤ 2000000) :
    Calls Tryz.prog 22 #[v1, v2] w fun e w' => e = .returned (.bool true) ∧ Below w.heap.size w w' := by
  obtain ⟨a1, c1, rfl, _⟩ := h1.slice
  obtain ⟨a2, c2, rfl, _⟩ := h2.slice
  have HC1 := Lib.hid h1; clear h1
  have HC2 := Lib.hid h2; clear h2
  have q0 : ((l.length : Int) != (l.length : Int)) = false := by simp
  go_enter Tryz.func22, Tryz.ntmps22
  go_wp2
  go_loopw [5] (fun i wr => ∃ k : Nat, k ≤ l.length ∧ i = .int .i64 k ∧ Below w.heap.size w wr) (fun i _ => l.length - (intOf i).toNat)
  case atStart => exact ⟨0, by omega, rfl, Below.refl _ _⟩
  case round =>
    obtain ⟨k, hk, rfl, hbel⟩ := hrel
    have HB := Lib.hid hbel; clear hbel
    by_cases hlt : k < l.length
    · obtain ⟨g1, o1, rfl, hs1⟩ := HC1.out.el hlt
      obtain ⟨g2, o2, rfl, hs2⟩ := HC2.out.el hlt
      have hs1' := (hs1 k hlt).new HB.out
      have hs2' := (hs2 k hlt).new HB.out
      clear hs1 hs2
      generalize l[k] = x at *
      have e0 := hs1'.f0
      have e1 := hs1'.f1
      have e2 := hs1'.f2
      have f0 := hs2'.f0
      have f1 := hs2'.f1
      have f2 := hs2'.f2
      clear hs1' hs2'
      have i1 : (k : Int) < (l.length : Int) := by omega
      have i0 : (0 : Int) ≤ (k : Int) := by omega
      go_wp2_with fail
      go_quiet (fail)
      have HBQ := Lib.hid (HB.out.trans ((Below_drewN (Below.refl wr.heap.size wr) nq).mono HB.out.size))
      generalize wr.drewN nq = w3 at *
      go_wp2_with fail
      go_roundw
      case rel => exact ⟨k + 1, by omega, by go_num, HBQ.out⟩
      case measure => simp [intOf]; omega
    · obtain rfl : k = l.length := by omega
      have i1 : ¬ (l.length : Int) < (l.length : Int) := by omega
      go_wp2_with fail
      go_ret
      exact ⟨rfl, HB.out⟩
theorem ins_mem (x : FileD) : ∀ (l : List FileD) (y : FileD), y ∈ insS x l → y = x ∨ y ∈ l
  | [], y, h => by simp [insS] at h; exact .inl h
  | z :: r, y, h => by
    unfold insS at h
    split at h
    · simp at h ⊢; exact h
    · simp at h ⊢
      rcases h with h | h
      · exact .inr (.inl h)
      · rcases ins_mem x r y h with h | h
        · exact .inl h
        · exact .inr (.inr h)
theorem sort_mem' : ∀ (l acc : List FileD) (y : FileD), y ∈ l.foldl (fun acc x => insS x acc) acc → y ∈ acc ∨ y ∈ l
  | [], acc, y, h => .inl h
  | x :: r, acc, y, h => by
    rcases sort_mem' r (insS x acc) y h with h | h
    · rcases ins_mem x acc y h with h | h
      · exact .inr (by simp [h])
      · exact .inl h
    · exact .inr (by simp [h])
theorem sortS_snoc (l : List FileD) (x : FileD) : sortS (l ++ [x]) = insS x (sortS l) := by unfold sortS; rw [List.foldl_append]; rfl
theorem insS_len (x : FileD) : ∀ l : List FileD, (insS x l).length = l.length + 1
  | [] => rfl
  | y :: r => by
    unfold insS
    split
    · simp
    · simp [insS_len x r]
theorem sortS_len : ∀ n (l : List FileD), l.length = n → (sortS l).length = n := by
  intro n
  induction n with
  | zero => intro l h; rw [List.eq_nil_of_length_eq_zero h]; rfl
  | succ n ih =>
    intro l h
    obtain ⟨m, x, rfl⟩ : ∃ m x, l = m ++ [x] := by
      have hne : l ≠ [] := by intro e; rw [e] at h; simp at h
      exact ⟨l.dropLast, l.getLast hne, (List.dropLast_concat_getLast hne).symm⟩
    rw [sortS_snoc, insS_len, ih m (by simpa using h)]
theorem insS_at (x : FileD) (l : List FileD) (k : Nat) (h : k < l.length) : insS x (l.drop k) = if ordS x.path l[k].path < 0 then x :: l[k] :: l.drop (k + 1) else l[k] :: insS x (l.drop (k + 1)) := by
  rw [List.drop_eq_getElem_cons h]; rfl
theorem sort_mem {i : Nat} {xs : List FileD} (y : FileD) (h : y ∈ sortS (xs.take i)) : y ∈ xs := by
  rcases sort_mem' (xs.take i) [] y h with h | h
  · simp at h
  · exact List.mem_of_mem_take h
theorem info_file : (Tryz.prog.info? 80).map (fun i => (i.zero, i.size, i.bytes)) = some (some (.agg #[.string ByteArray.empty, .int .i64 0, .string ByteArray.empty]), 3, 40) := by kernel_rfl
end Go.Proofs.YtamiacmnobklaaaGreatDoor
