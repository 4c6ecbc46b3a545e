/- The walk of All. -/
import Derived.Test.YtjgoceebjmnjcaaDoorFourW
import Derived.Test.YtjgoceebjmnjcaaDoorBuildW
import Derived.Test.YtjgoceebjmnjcaaDoorShelf
import Derived.BigQuiet
import Derived.WalkKit
import Derived.WalkSpells
import Derived.Lib.Hide
import Derived.WalkLawsBesides
import Derived.Outline
set_option linter.unusedVariables false
namespace Go.Proofs.YtjgoceebjmnjcaaDoor
open Go.RowKit

abbrev encT : List UInt8 → Value := fun l => Value.string ⟨l.toArray⟩
def framesB (xs : List (List UInt8)) : List UInt8 := xs.flatMap frameB
theorem framesB_take (xs : List (List UInt8)) (k : Nat) (h : k < xs.length) : framesB (xs.take (k + 1)) = framesB (xs.take k) ++ frameB xs[k] := by
  rw [List.take_succ_eq_append_getElem h]
  unfold framesB
  rw [List.flatMap_append, List.flatMap_cons, List.flatMap_nil, List.append_nil]
theorem framesB_length (xs : List (List UInt8)) (h : ∀ x ∈ xs, x.length ≤ 65536) : (framesB xs).length ≤ 65546 * xs.length := by
  induction xs with
  | nil => simp [framesB]
  | cons x xs ih =>
    have h1 := h x (by simp)
    have h2 := ih (fun y hy => h y (by simp [hy]))
    unfold framesB at h2 ⊢
    rw [List.flatMap_cons, List.length_append, frameB_length, List.length_cons]
    omega
/-- The frames, or that one is too long. -/
def allS (xs : List (List UInt8)) : List UInt8 × Nat := if ∀ x ∈ xs, x.length ≤ 65536 then (framesB xs, 0) else ([], 4)

theorem bld_new (w : World) : Bld (w.alloc (.cells #[.pointer none, .slice none 0 0] 59)) w.heap.size w.heap.size [] :=
  .inl ⟨Nat.le_refl _, .slice none 0 0, by show (w.heap.push _)[w.heap.size]? = _; simp, World.ownsRow_nil _ _ _ _, by simp [Value.ownBlock]⟩

theorem bldAt_kept {w w' : World} {B b : Nat} {p : Value} {l : List Value} (h : Lib.BuilderAt 59 5 B b p l w) (hb : Below w.heap.size w w') : Lib.BuilderAt 59 5 B b p l w' := by
  have hlt := h.lt
  obtain ⟨hB, v, hbk, hown, hne⟩ := h
  refine ⟨hB, v, (hb.block b hlt).trans hbk, ?_, hne⟩
  refine ⟨hown.1, ?_⟩
  rcases hown.2 with hn | ⟨g, cap, cur, rfl, hg, hgg, rest⟩
  · exact .inl hn
  · exact .inr ⟨g, cap, cur, rfl, hg, (hb.block g (Array.getElem?_eq_some_iff.1 hgg).1).trans hgg, rest⟩
theorem bld_kept {w w' : World} {B b : Nat} {l : List UInt8} (h : Bld w B b l) (hb : Below w.heap.size w w') : Bld w' B b l :=
  h.elim (fun h => .inl (bldAt_kept h hb)) (fun h => .inr (bldAt_kept h hb))

set_option maxRecDepth 100000 in
set_option maxHeartbeats 1000000 in
theorem all_any (v : Value) (xs : List (List UInt8)) (w : World) (hrow : Row encT (· < w.heap.size) w v xs) (hlen : xs.length ≤ 1000) (hx : ∀ x ∈ xs, x.length ≤ 140737488351232) (ht : Tab w) :
    Calls Tryd.prog 23 #[v] w fun e w' => e = .returned (.tuple #[.string ⟨(allS xs).1.toArray⟩, .int .i64 (allS xs).2]) ∧ Below w.heap.size w w' := by
  have T := Lib.hid ht; clear ht
  have HX := Lib.hid hx; clear hx
  have hb0 : Below w.heap.size w (w.alloc (.cells #[.pointer none, .slice none 0 0] 59)) := (Below.refl _ _).alloc (Nat.le_refl _) _
  have BN := bld_new w
  rcases hrow.cases with ⟨rfl, a, cap, rfl⟩ | ⟨b, off, cap, rfl, hbb, hc⟩
  · have S := Lib.hid (Tryd.Builder_String_any w.heap.size w.heap.size [] _ BN (by simp))
    clear BN
    go_enter Tryd.func23, Tryd.ntmps23
    go_wp2
    refine wp_loop_rounds 1 ?_
    rw [rounds_succ]
    go_wp2_with fail
    refine S.out.mono ?_
    rintro e w1 ⟨rfl, hb1⟩
    go_wp2
    go_ret2
    exact ⟨rfl, hb0.trans hb1⟩
  · have HC := Lib.hid hc; clear hc
    have BN := Lib.hid BN
    have HB := Lib.hid hbb
    go_enter Tryd.func23, Tryd.ntmps23
    go_wp2
    generalize w.alloc (.cells #[.pointer none, .slice none 0 0] 59) = W0 at *
    go_loopw [11] (fun i wr => ∃ k : Nat, k ≤ xs.length ∧ i = .int .i64 k ∧ (∀ x ∈ xs.take k, x.length ≤ 65536) ∧ Bld wr w.heap.size w.heap.size (framesB (xs.take k)) ∧ Below w.heap.size w wr) (fun i _ => xs.length - (intOf i).toNat)
    case atStart => exact ⟨0, Nat.zero_le _, rfl, by simp, BN.out, hb0⟩
    case round =>
      obtain ⟨k, hk, rfl, hsh, hbld, hbel⟩ := hrel
      have hlf := framesB_length _ hsh
      have htk : (xs.take k).length ≤ 1000 := by rw [List.length_take]; omega
      have Hsh := Lib.hid hsh; clear hsh
      have Hbld := Lib.hid hbld; clear hbld
      have Tr := Lib.hid (T.out.below hbel)
      have hbw := hbel.size
      by_cases hlt : k < xs.length
      · have hcell : wr.cell? ⟨b, off + k, none⟩ = some (encT xs[k]) := (hbel.cell (p := ⟨b, off + k, none⟩) HB.out).trans (HC.out k hlt)
        have hxk := HX.out _ (List.getElem_mem hlt)
        have St := Lib.hid (framesB_take xs k hlt)
        have Hts := Lib.hid (List.take_succ_eq_append_getElem hlt)
        have Hmem := Lib.hid (List.getElem_mem hlt)
        generalize xs[k] = x at *
        by_cases hs : x.length ≤ 65536
        · have F := Lib.hid (frame_ok x wr hs Tr.out)
          have hfl := frameB_length x
          generalize frameB x = f at *
          have Hfl := Lib.hid hfl; clear hfl
          go_wp2_with fail
          refine F.out.mono ?_
          rintro e w2 ⟨rfl, hb2⟩
          have hbld2 : Bld w2 w.heap.size w.heap.size (framesB (xs.take k)) := bld_kept Hbld.out hb2
          have Wr := Lib.hid (writeString_any w.heap.size w.heap.size _ f w2 hbld2 (by rw [Hfl.out]; omega) (Nat.le_trans hbw hb2.size))
          clear hbld2
          go_wp2_with fail
          refine Wr.out.mono ?_
          rintro e w3 ⟨rfl, hbld3, hb3⟩
          have Hbld3 := Lib.hid hbld3; clear hbld3
          go_wp2
          go_roundw
          case rel =>
            refine ⟨k + 1, by omega, by go_num, ?_, by rw [St.out]; exact Hbld3.out, hbel.trans ((hb2.mono hbw).trans hb3)⟩
            rw [Hts.out]
            intro y hy
            rcases List.mem_append.1 hy with h | h
            · exact Hsh.out y h
            · simp at h; subst h; exact hs
          case measure => simp [intOf]; omega
        · have F := Lib.hid (frame_no x wr (by omega) hxk)
          have R := Lib.hid (show allS xs = ([], 4) by unfold allS; rw [if_neg (fun h => hs (h x Hmem.out))])
          go_wp2_with fail
          refine F.out.mono ?_
          rintro e w2 ⟨rfl, rfl⟩
          go_wp2
          go_ret2
          rw [R.out]
          exact ⟨rfl, hbel⟩
      · have Sx := Lib.hid (show xs.take k = xs from List.take_of_length_le (by omega))
        have hbld4 := Hbld.out
        rw [Sx.out] at hbld4
        have S := Lib.hid (Tryd.Builder_String_any w.heap.size w.heap.size (framesB xs) wr hbld4 hbw)
        have R := Lib.hid (show allS xs = (framesB xs, 0) by
          have := Hsh.out
          rw [Sx.out] at this
          unfold allS; rw [if_pos this])
        clear hbld4
        go_wp2_with fail
        refine S.out.mono ?_
        rintro e w2 ⟨rfl, hb2⟩
        go_wp2
        go_ret2
        rw [R.out]
        exact ⟨rfl, hbel.trans hb2⟩
end Go.Proofs.YtjgoceebjmnjcaaDoor
