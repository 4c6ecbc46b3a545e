/- The document's keep: Keeps, in, Ints, Gens, Check. -/
import Derived.Test.YtiknfohadnjkiaaFrame
import Derived.Test.YtiknfohadnjkiaaGen
import Derived.Test.YtiknfohadnjkiaaOwnL
import Derived.Test.YtiknfohadnjkiaaRowN
import Derived.Test.YtiknfohadnjkiaaRows
import Derived.BigQuiet
import Derived.Deep.QuietTactic
import Derived.Lib.Hide
import Derived.Outline
import Derived.WalkKit
import Derived.WalkLawsBesides
import Derived.WalkSpells
set_option linter.unusedVariables false
namespace Go.Proofs.Ytiknfohadnjkiaa
open Go.RowKit

def encI1 (n : Int) : List Value := [.int .i64 n]
theorem encI1_ok : EncN encI1 1 := ⟨fun _ => rfl, fun x u hu => by simp [encI1] at hu; rw [hu]; rfl⟩
set_option maxRecDepth 100000 in
theorem refInts12_same (u v : Value) (l : List Int) (w : World) {N M : Nat → Prop} (hu : RowN encI1 1 N w u l) (hv : RowN encI1 1 M w v l) (hl : l.length ≤ 140737488351232) :
    Calls Try.prog 27 #[u, v] w fun e w' => e = .returned (.bool true) ∧ Below w.heap.size w w' := by
  have HU := Lib.hid hu
  have HV := Lib.hid hv
  obtain ⟨ua, uc, hu2, _⟩ := hu.slice
  obtain ⟨va, vc, hv2, _⟩ := hv.slice
  subst hu2; subst hv2
  clear hu hv
  have q0 : ((l.length : Int) != (l.length : Int)) = false := by simp
  go_enter Try.func27, Try.ntmps27
  go_wp2_with fail
  go_loopw [5] (fun v5 wr => ∃ i : Nat, i ≤ l.length ∧ v5 = .int .i64 (i : Nat) ∧ Below w.heap.size w wr) (fun v5 _ => l.length - (intOf v5).toNat)
  case atStart => exact ⟨0, Nat.zero_le _, rfl, Below.refl _ _⟩
  case round =>
    obtain ⟨i, hi, rfl, hb⟩ := hrel
    have HB := Lib.hid hb
    clear hb
    have i0 : (0 : Int) ≤ (i : Int) := by omega
    by_cases hlt : i < l.length
    · have j1 : (i : Int) < (l.length : Int) := by omega
      obtain ⟨b, o, c', hv, hn, hel⟩ := HU.out.at hlt
      injection hv with ea eb ec
      subst ea; subst ec
      clear eb
      obtain ⟨b', o', c', hv, hn', hel'⟩ := HV.out.at hlt
      injection hv with ea eb ec
      subst ea; subst ec
      clear eb
      generalize l[i] = x at *
      have d0 : w.cell? ⟨b, o + i * 1 + 0, none⟩ = some (.int .i64 x) := hel 0 _ rfl
      have d1 : w.cell? ⟨b', o' + i * 1 + 0, none⟩ = some (.int .i64 x) := hel' 0 _ rfl
      rw [Nat.mul_one, Nat.add_zero] at d0 d1
      have f0 := (HB.out.cell (p := ⟨b, o + i, none⟩) (World.block_lt_of_cell? w _ d0)).trans d0
      have f1 := (HB.out.cell (p := ⟨b', o' + i, none⟩) (World.block_lt_of_cell? w _ d1)).trans d1
      clear hel hel' d0 d1
      have q : (x != x) = false := by simp
      go_wp2_with fail
      go_quiet (fail)
      have HB2 := Lib.hid (HB.out.trans ((Below_drewN (Below.refl wr.heap.size wr) nq).mono HB.out.size))
      go_wp2_with fail
      go_roundw
      case rel => exact ⟨i + 1, hlt, by go_num, HB2.out⟩
      case measure => simp [intOf]; omega
    · have j1 : ¬ (i : Int) < (l.length : Int) := by omega
      go_wp2_with fail
      go_ret
      exact ⟨rfl, HB.out⟩
end Go.Proofs.Ytiknfohadnjkiaa
