/- Landed tree: turned, next, walked. -/
import Derived.Test.YtkfkfpfnpfpkaaaDoorArgTree
import Derived.Test.YtkfkfpfnpfpkaaaDoorArgs3
import Derived.Test.YtkfkfpfnpfpkaaaDoorCodeMath
import Derived.Test.YtkfkfpfnpfpkaaaDoorFrame
import Derived.Test.YtkfkfpfnpfpkaaaDoorGen
import Derived.Test.YtkfkfpfnpfpkaaaDoorMergeMath
import Derived.Test.YtkfkfpfnpfpkaaaDoorOrderTW
import Derived.Test.YtkfkfpfnpfpkaaaDoorProg
import Derived.Test.YtkfkfpfnpfpkaaaDoorQuietBelow
import Derived.Test.YtkfkfpfnpfpkaaaDoorReadW
import Derived.Test.YtkfkfpfnpfpkaaaDoorRefCheckW
import Derived.Test.YtkfkfpfnpfpkaaaDoorRefRightTW
import Derived.Test.YtkfkfpfnpfpkaaaDoorRowN
import Derived.Test.YtkfkfpfnpfpkaaaDoorRows
import Derived.Test.YtkfkfpfnpfpkaaaDoorShelf
import Derived.Test.YtkfkfpfnpfpkaaaDoorTreeMath
import Derived.BigQuiet
import Derived.Deep.Cut
import Derived.Deep.CutBlock
import Derived.Deep.CutRange
import Derived.Deep.DeepCutAuto
import Derived.Deep.QuietTactic
import Derived.Deep.RegionHeld
import Derived.Laws.IdiomStrings
import Derived.Laws.OwnMore
import Derived.Laws.RangeAny
import Derived.Lib.Hide
import Derived.LoopIn
import Derived.LoopNIn
import Derived.LoopTactic
import Derived.OwnWalkIn
import Derived.RangeFuncBound
import Derived.RangeFuncCalls
import Derived.RangeFuncLeaves
import Derived.RangeFuncNested
import Derived.Shelf.Abstract
import Derived.Shelf.RegionOpen
import Derived.Shelf.Strings.SplitCore
import Derived.TacticsInMore
import Derived.WalkKit
import Derived.WalkLawsBesides
import Derived.WalkSpells
set_option linter.unusedVariables false
namespace Go.Proofs.YtkfkfpfnpfpkaaaDoor
open Go.RowKit

def aggI (x : ItemD) : Value := .agg #[.string ⟨x.path.toArray⟩, .int .i64 x.mode, .int .i64 x.size, .string ⟨x.mark.toArray⟩]
set_option maxRecDepth 100000 in
set_option maxHeartbeats 1000000 in
theorem turned_any (x y : ItemD) (w : World) : Calls Tryd.prog 85 #[aggI x, aggI y] w fun e w' => e = .returned (.int .i64 (turnedS x y)) ∧ Below w.heap.size w w' := by
  obtain ⟨p, m, s, k⟩ := x
  obtain ⟨q, n, t, l⟩ := y
  unfold aggI
  dsimp only
  have HB := Lib.hid (((Below.refl w.heap.size w).alloc (Nat.le_refl _) (.cells #[.string ⟨p.toArray⟩, .int .i64 m, .int .i64 s, .string ⟨k.toArray⟩] 40)).alloc (by simp) (.cells #[.string ⟨q.toArray⟩, .int .i64 n, .int .i64 t, .string ⟨l.toArray⟩] 40))
  by_cases h1 : s = t
  · have q1 : (s != t) = false := by simp [h1]
    by_cases h2 : k = l
    · have q2 : (k != l) = false := by simp [h2]
      have q2b : (k == l) = true := by simp [h2]
      by_cases h3 : m = n
      · have q3 : (m != n) = false := by simp [h3]
        have HR := Lib.hid (show turnedS ⟨p, m, s, k⟩ ⟨q, n, t, l⟩ = 0 by unfold turnedS; simp [h1, h2, h3])
        rw [HR.out]
        clear h1 h2 h3
        go_enter Tryd.func85, Tryd.ntmps85
        go_wp2_with fail
        go_ret
        exact ⟨rfl, HB.out⟩
      · have q3 : (m != n) = true := by simp [h3]
        have HR := Lib.hid (show turnedS ⟨p, m, s, k⟩ ⟨q, n, t, l⟩ = 4 by unfold turnedS; simp [h1, h2, h3])
        rw [HR.out]
        clear h1 h2 h3
        go_enter Tryd.func85, Tryd.ntmps85
        go_wp2_with fail
        go_ret
        exact ⟨rfl, HB.out⟩
    · have q2 : (k != l) = true := by simp [h2]
      have q2b : (k == l) = false := by simp [h2]
      have HR := Lib.hid (show turnedS ⟨p, m, s, k⟩ ⟨q, n, t, l⟩ = 3 by unfold turnedS; simp [h1, h2])
      rw [HR.out]
      clear h1 h2
      go_enter Tryd.func85, Tryd.ntmps85
      go_wp2_with fail
      go_ret
      exact ⟨rfl, HB.out⟩
  · have q1 : (s != t) = true := by simp [h1]
    have HR := Lib.hid (show turnedS ⟨p, m, s, k⟩ ⟨q, n, t, l⟩ = 3 by unfold turnedS; simp [h1])
    rw [HR.out]
    clear h1
    go_enter Tryd.func85, Tryd.ntmps85
    go_wp2_with fail
    go_ret
    exact ⟨rfl, HB.out⟩
/-- Which list has the path that comes next. -/
def nextN : List ItemD → List ItemD → Int
  | _, [] => -1
  | [], _ => 1
  | x :: _, y :: _ => ordS x.path y.path
set_option maxRecDepth 100000 in
set_option maxHeartbeats 1000000 in
theorem next_any (va vb : Option Addr) (ca cb : Nat) (a b : List ItemD) (w : World) (ha : RowN encI 4 (fun _ => True) w (.slice va a.length ca) a) (hb : RowN encI 4 (fun _ => True) w (.slice vb b.length cb) b) (hka : ∀ x ∈ a, ItemOk x) (hkb : ∀ x ∈ b, ItemOk x) (hla : a.length ≤ 1000000) (hlb : b.length ≤ 1000000) :
    Calls Tryd.prog 84 #[.slice va a.length ca, .slice vb b.length cb] w fun e w' => e = .returned (.int .i64 (nextN a b)) ∧ Below w.heap.size w w' := by
  match b, hb, hkb, hlb with
  | [], hb, hkb, hlb =>
    go_enter Tryd.func84, Tryd.ntmps84
    go_wp2_with fail
    go_ret
    exact ⟨by cases a <;> rfl, Below.refl _ _⟩
  | y :: b, hb, hkb, hlb =>
    have nb : (((y :: b).length : Int) == 0) = false := by rw [beq_eq_false_iff_ne]; simp; omega
    match a, ha, hka, hla with
    | [], ha, hka, hla =>
      generalize (y :: b).length = lb at *
      go_enter Tryd.func84, Tryd.ntmps84
      go_wp2_with fail
      go_ret
      exact ⟨rfl, Below.refl _ _⟩
    | x :: a, ha, hka, hla =>
      have na : (((x :: a).length : Int) == 0) = false := by rw [beq_eq_false_iff_ne]; simp; omega
      obtain ⟨g1, o1, rfl, e1⟩ := ha.el (i := 0) (by simp)
      obtain ⟨g2, o2, rfl, e2⟩ := hb.el (i := 0) (by simp)
      have c1 := (e1 0 (by simp)).i0
      have c2 := (e2 0 (by simp)).i0
      rw [Nat.zero_mul, Nat.add_zero] at c1 c2
      change w.cell? ⟨g1, o1, none⟩ = some (.string ⟨x.path.toArray⟩) at c1
      change w.cell? ⟨g2, o2, none⟩ = some (.string ⟨y.path.toArray⟩) at c2
      have OA := fun w' => Lib.hid (order_any x.path y.path w' (hka x (by simp)).p (hkb y (by simp)).p)
      have j1 : (0 : Int) < ((x :: a).length : Int) := by rw [List.length_cons]; omega
      have j2 : (0 : Int) < ((y :: b).length : Int) := by rw [List.length_cons]; omega
      have HR := Lib.hid (show nextN (x :: a) (y :: b) = ordS x.path y.path from rfl)
      rw [HR.out]
      clear HR e1 e2
      generalize (y :: b).length = lb at *
      generalize (x :: a).length = la at *
      generalize ordS x.path y.path = od at *
      generalize x.path = p at *
      generalize y.path = q at *
      go_enter Tryd.func84, Tryd.ntmps84
      go_wp2_with fail
      have A1 := below_cell c1
      have A2 := below_cell c2
      have j1 : (0 : Int) < (la : Int) := by omega
      have j2 : (0 : Int) < (lb : Int) := by omega
      refine wp_region_below (by kernel_rfl) (by kernel_rfl) ?_
      repeat (go_big_quiet_step ((go_at_call 18; with_reducible exact below_calls (OA _).out)))
      refine wpQuiet_nil ?_
      rintro w8 ⟨⟨w8b, hb8⟩, e8⟩
      have e8' : w8 = w8b := e8
      clear e8
      subst e8'
      have HB8 := Lib.hid hb8
      clear hb8 A1 A2
      go_wp2_with fail
      go_ret
      exact ⟨rfl, HB8.out⟩
end Go.Proofs.YtkfkfpfnpfpkaaaDoor
