/- The library's SplitSeq at a slash, walked: the pieces come one by one, whatever is done with them. -/
import Derived.Test.YtkfkfpfnpfpkaaaDoorFrame
import Derived.Test.YtkfkfpfnpfpkaaaDoorGen
import Derived.Test.YtkfkfpfnpfpkaaaDoorMarkMath
import Derived.Test.YtkfkfpfnpfpkaaaDoorOwnL
import Derived.Test.YtkfkfpfnpfpkaaaDoorProg
import Derived.Test.YtkfkfpfnpfpkaaaDoorReadW
import Derived.Test.YtkfkfpfnpfpkaaaDoorRowN
import Derived.Test.YtkfkfpfnpfpkaaaDoorRows
import Derived.Test.YtkfkfpfnpfpkaaaDoorShelf
import Derived.Test.YtkfkfpfnpfpkaaaDoorTreeMath
import Derived.BigQuiet
import Derived.Deep.RegionHeld
import Derived.Lib.Hide
import Derived.LoopIn
import Derived.LoopNIn
import Derived.OwnWalkIn
import Derived.RangeFuncBound
import Derived.RangeFuncCalls
import Derived.RangeFuncLeaves
import Derived.RangeFuncNested
import Derived.Shelf.Abstract
import Derived.Shelf.RegionOpen
import Derived.TacticsInMore
import Derived.WalkKit
import Derived.WalkLawsBesides
import Derived.WalkSpells
set_option linter.unusedVariables false
namespace Go.Proofs.YtkfkfpfnpfpkaaaDoor
open Go.RowKit
attribute [local go_sem] Oper.semAt_some

theorem namesG_pre : ∀ (a cur r : Txt), (∀ c ∈ a, c ≠ 47) → namesG cur (a ++ r) = namesG (cur ++ a) r
  | [], cur, r, _ => by simp
  | c :: a, cur, r, h => by
    have hc : ¬ c = 47 := h c (by simp)
    have e : namesG cur (c :: (a ++ r)) = namesG (cur ++ [c]) (a ++ r) := by
      show (if c = 47 then _ else _) = _
      rw [if_neg hc]
    show namesG cur (c :: (a ++ r)) = _
    rw [e, namesG_pre a (cur ++ [c]) r (fun x hx => h x (by simp [hx])), List.append_assoc]; rfl
theorem names_none (u : Txt) (h : ∀ c ∈ u, c ≠ 47) : namesS u = [u] := by
  unfold namesS
  have := namesG_pre u [] [] h
  rw [List.append_nil, List.nil_append] at this
  rw [this]; rfl
theorem names_some (a r : Txt) (h : ∀ c ∈ a, c ≠ 47) : namesS (a ++ 47 :: r) = a :: namesS r := by
  unfold namesS
  rw [namesG_pre a [] (47 :: r) h, List.nil_append]
  show (if (47 : UInt8) = 47 then _ else _) = _
  rw [if_pos rfl]
theorem idx_none : ∀ u : Txt, (∀ c ∈ u, c ≠ 47) → Lib.indexByte u 47 = -1
  | [], _ => rfl
  | b :: l, h => by
    have hb : (b == 47) = false := beq_eq_false_iff_ne.2 (h b (by simp))
    unfold Lib.indexByte
    rw [idx_none l (fun c hc => h c (by simp [hc])), if_neg (by rw [hb]; decide)]
    rfl
theorem idx_some : ∀ (a r : Txt), (∀ c ∈ a, c ≠ 47) → Lib.indexByte (a ++ 47 :: r) 47 = (a.length : Int)
  | [], r, _ => by simp [Lib.indexByte]
  | b :: l, r, h => by
    have hb : (b == 47) = false := beq_eq_false_iff_ne.2 (h b (by simp))
    have ih := idx_some l r (fun c hc => h c (by simp [hc]))
    show (if b == 47 then (0 : Int) else if Lib.indexByte (l ++ 47 :: r) 47 == -1 then -1 else Lib.indexByte (l ++ 47 :: r) 47 + 1) = _
    rw [ih, if_neg (by rw [hb]; decide), if_neg (by rw [beq_iff_eq]; omega)]
    simp [List.length_cons]
theorem slash_cases : ∀ u : Txt, (∀ c ∈ u, c ≠ 47) ∨ ∃ a r, u = a ++ 47 :: r ∧ ∀ c ∈ a, c ≠ 47
  | [] => .inl (fun c h => by simp at h)
  | b :: l => by
    by_cases hb : b = 47
    · exact .inr ⟨[], l, by rw [hb]; rfl, fun c h => by simp at h⟩
    · rcases slash_cases l with h | ⟨a, r, h, h'⟩
      · exact .inl (fun c hc => by simp at hc; rcases hc with rfl | hc; exact hb; exact h c hc)
      · exact .inr ⟨b :: a, r, by rw [h]; rfl, fun c hc => by simp at hc; rcases hc with rfl | hc; exact hb; exact h' c hc⟩
theorem namesS_pos (u : Txt) : 0 < (namesS u).length := by
  rcases slash_cases u with h | ⟨a, r, h, h'⟩
  · rw [names_none u h]; simp
  · rw [h, names_some a r h']; simp
/-- What the iterator has captured: the separator, what is left, the bytes of the separator that a piece keeps. -/
structure PB (W : World) (bp bs bv : Nat) (t : Txt) : Prop where
  p : W.cell? ⟨bp, 0, none⟩ = some (.string ⟨#[47]⟩)
  s : W.cell? ⟨bs, 0, none⟩ = some (.string ⟨t.toArray⟩)
  v : W.cell? ⟨bv, 0, none⟩ = some (.int .i64 0)
  f : W.frozen? ⟨bs, 0, none⟩ = false
theorem PB.below {W W' : World} {bp bs bv n0 : Nat} {t : Txt} (h : PB W bp bs bv t) (hb : Below n0 W W') (h1 : bp < n0) (h2 : bs < n0) (h3 : bv < n0) : PB W' bp bs bv t :=
  ⟨(hb.cell (p := ⟨bp, 0, none⟩) h1).trans h.p, (hb.cell (p := ⟨bs, 0, none⟩) h2).trans h.s, (hb.cell (p := ⟨bv, 0, none⟩) h3).trans h.v, (hb.frozen (p := ⟨bs, 0, none⟩) h2).trans h.f⟩
theorem PB.set {W : World} {bp bs bv : Nat} {t u : Txt} (h : PB W bp bs bv t) (h1 : bp ≠ bs) (h3 : bv ≠ bs) : PB (W.setCell ⟨bs, 0, none⟩ (.string ⟨u.toArray⟩)) bp bs bv u :=
  ⟨(World.cell?_setCell_far _ _ _ _ (fun e => h1 e.symm)).trans h.p, World.cell?_setCell_same' _ _ _ (by rw [h.s]; rfl), (World.cell?_setCell_far _ _ _ _ (fun e => h3 e.symm)).trans h.v, by rw [World.frozen?_setCell]; exact h.f⟩
def leftAt (W : World) (bs : Nat) : Nat := match W.cell? ⟨bs, 0, none⟩ with
  | some (.string b) => b.size
  | _ => 0
theorem PB.left {W : World} {bp bs bv : Nat} {t : Txt} (h : PB W bp bs bv t) : leftAt W bs = t.length := by unfold leftAt; rw [h.s]; rfl

set_option maxRecDepth 100000 in
set_option maxHeartbeats 1000000 in
theorem pieces_in (l bp bs bv n0 : Nat) (h1 : bp < n0) (h2 : bs < n0) (h3 : bv < n0) (h4 : bp ≠ bs) (h5 : bv ≠ bs) (t : Txt) (names : List Txt) (hn : names = namesS t) (ht : t.length ≤ 140737488351232)
    (J : Nat → World → Prop) (Jx : World → Prop) (hJ : ∀ k W v, J k W → J k (W.setCell ⟨bs, 0, none⟩ v))
    (hY : ∀ k (hk : k < names.length) W, J k W → YieldAt Fence.wide 1 Tryd.prog l #[.string ⟨names[k].toArray⟩] W fun e W' => (e = .returned (.bool true) ∧ J (k + 1) W' ∧ Below n0 W W') ∨ (e = .returned (.bool false) ∧ Jx W'))
    (W : World) (hPB : PB W bp bs bv t) (h0 : J 0 W) :
    CallsIn Fence.wide 2 Tryd.prog 117 #[.func (.yield l) #[] #[], .pointer (some ⟨bp, 0, none⟩), .pointer (some ⟨bs, 0, none⟩), .pointer (some ⟨bv, 0, none⟩)] W fun e W' => (∃ v, e = .returned v) ∧ (J names.length W' ∨ Jx W') := by
  have HY := Lib.hid hY; clear hY
  have HJ := Lib.hid hJ; clear hJ
  have HP := Lib.hid hPB
  have cp := hPB.p
  clear hPB
  refine callsIn_of_wp Tryd.func117 rfl trivial ?_ rfl
  simp only [Tryd.ntmps117, List.size_toArray, List.length_cons, List.length_nil, Nat.reduceAdd, Nat.reduceSub, Array.replicate_succ, Array.replicate_zero, List.push_toArray, List.append_toArray, List.nil_append, List.cons_append]
  gi_wp2
  gi_loopw [7, 8] (fun v7 v8 wr => ∃ (k : Nat) (u : Txt), k < names.length ∧ Hid (names.drop k = namesS u) ∧ u.length ≤ 140737488351232 ∧ Hid (PB wr bp bs bv u) ∧ Hid (J k wr)) (fun v7 v8 wr => leftAt wr bs)
  case atStart => exact ⟨0, t, by rw [hn]; exact namesS_pos t, Lib.hid (by rw [hn]; rfl), ht, HP, Lib.hid h0⟩
  case round =>
    clear HP h0 cp
    obtain ⟨k, u, hk, HN, hu, HP, HJ0⟩ := hrel
    have cp := HP.out.p
    have cs := HP.out.s
    have cv := HP.out.v
    have fs := HP.out.f
    have IX := fun w' => Lib.hid (Tryd.strings_Index_one ⟨u.toArray⟩ 47 w')
    rcases slash_cases u with hno | ⟨a, r, he, hno⟩
    · have HL := Lib.hid (show names.length = k + 1 ∧ names[k] = u by
        have h := HN.out
        rw [names_none u hno, List.drop_eq_getElem_cons hk] at h
        injection h with e1 e2
        have := congrArg List.length e2
        simp at this
        exact ⟨by omega, e1⟩)
      have IX2 : ∀ w', Hid (Calls Tryd.prog 119 #[.string ⟨u.toArray⟩, .string ⟨#[47]⟩] w' fun e w1 => e = .returned (.int .i64 (-1)) ∧ w1 = w') := fun w' => by
        have h := (IX w').out
        rw [show Lib.indexByte (⟨u.toArray⟩ : ByteArray).data.toList 47 = -1 from idx_none u hno] at h
        exact Lib.hid h
      clear IX
      obtain ⟨fn, tmps, assign, body, hy, hR⟩ := HY.out k hk wr HJ0.out
      rw [HL.out.2] at hy
      gi_wp2_with (refine ⟨trivial, ?_⟩; gi_at_call 119; refine (callsIn_wide.2 (IX2 _).out).mono ?_; rintro e w' ⟨rfl, rfl⟩)
      refine hR.mono ?_
      rintro e W3 (⟨rfl, hJ3, hk3⟩ | ⟨rfl, hJx3⟩)
      · gi_wp2
        go_end0
        exact ⟨⟨_, rfl⟩, .inl (by rw [HL.out.1]; exact hJ3)⟩
      · gi_wp2
        go_end0
        exact ⟨⟨_, rfl⟩, .inr hJx3⟩
    · have HL := Lib.hid (show k + 1 < names.length ∧ names[k] = a ∧ names.drop (k + 1) = namesS r by
        have h := HN.out
        rw [he, names_some a r hno, List.drop_eq_getElem_cons hk] at h
        injection h with e1 e2
        have h3 := congrArg List.length e2
        have h4 := namesS_pos r
        rw [List.length_drop] at h3
        exact ⟨by omega, e1, e2⟩)
      have IX2 : ∀ w', Hid (Calls Tryd.prog 119 #[.string ⟨u.toArray⟩, .string ⟨#[47]⟩] w' fun e w1 => e = .returned (.int .i64 (a.length : Nat)) ∧ w1 = w') := fun w' => by
        have h := (IX w').out
        rw [show Lib.indexByte (⟨u.toArray⟩ : ByteArray).data.toList 47 = (a.length : Int) by rw [he]; exact idx_some a r hno] at h
        exact Lib.hid h
      clear IX
      have hul : u.length = a.length + r.length + 1 := by rw [he]; simp; omega
      have x1 : (⟨u.toArray⟩ : ByteArray).extract 0 a.length = ⟨a.toArray⟩ := by
        rw [take_toArray, he, List.take_left]
      have x2 : (⟨u.toArray⟩ : ByteArray).extract (a.length + 1) u.length = ⟨r.toArray⟩ := by
        rw [drop_toArray _ _ _ (Nat.le_refl _), he, show a.length + 1 = (a ++ [47]).length by simp, show a ++ 47 :: r = (a ++ [47]) ++ r by simp, List.drop_left]
      obtain ⟨fn, tmps, assign, body, hy, hR⟩ := HY.out k hk wr HJ0.out
      rw [HL.out.2.1] at hy
      have SU := Lib.hid (show (⟨u.toArray⟩ : ByteArray).size = u.length from rfl)
      obtain ⟨n1, hn1⟩ : ∃ n1, n1 = a.length := ⟨_, rfl⟩
      rw [← hn1] at x1 x2 IX2 hul
      have j0 : (0 : Int) ≤ (n1 : Int) := by omega
      have j1 : (n1 : Int) ≤ (u.length : Int) := by omega
      have j2 : (n1 : Int) + 1 ≤ (u.length : Int) := by omega
      have HUL := Lib.hid hul
      clear he hno hn1 hul
      gi_wp2_with (refine ⟨trivial, ?_⟩; gi_at_call 119; refine (callsIn_wide.2 (IX2 _).out).mono ?_; rintro e w' ⟨rfl, rfl⟩)
      refine hR.mono ?_
      rintro e W3 (⟨rfl, hJ3, hk3⟩ | ⟨rfl, hJx3⟩)
      · have HP3 := Lib.hid (HP.out.below hk3 h1 h2 h3)
        have HJ3 := Lib.hid hJ3
        have cp3 := HP3.out.p
        have cs3 := HP3.out.s
        have cv3 := HP3.out.v
        have fs3 := HP3.out.f
        have HP4 := Lib.hid (HP3.out.set (u := r) h4 h5)
        have HJ4 := Lib.hid (HJ.out _ _ (.string ⟨r.toArray⟩) HJ3.out)
        have LU := Lib.hid (HP.out.left)
        clear hJ3 hk3 cp cs cv fs HP HJ0
        gi_wp2
        go_roundw
        case rel => exact ⟨k + 1, r, HL.out.1, Lib.hid HL.out.2.2, by have := HUL.out; omega, HP4, HJ4⟩
        case measure => rw [HP4.out.left, LU.out]; have := HUL.out; omega
      · gi_wp2
        refine bodyPost_ret (results_none rfl _ _ _) rfl ?_
        exact ⟨⟨_, rfl⟩, .inr hJx3⟩
end Go.Proofs.YtkfkfpfnpfpkaaaDoor
