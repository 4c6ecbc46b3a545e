/- The law FrameBack, by what first does; how a list of texts is handed over: its length is within its capacity. -/
import Derived.Test.YtjgoceebjmnjcaaDoorBackW
import Derived.Test.YtjgoceebjmnjcaaDoorSumsFW
set_option linter.unusedVariables false
namespace Go.Proofs.YtjgoceebjmnjcaaDoor
open Go.ChangeShapes Go.WideShapes Go.ChangeAt Go.RowKit

section
variable {H : Type} {enc : TypeId × Value → H} {P : Program} {W : World} {t e : TypeId} {v : Value} {d : DataW H} {ps : List MemPlace} {base : Nat}
theorem arg_cap (ht : P.underlying t = some (.slice e)) (he : P.underlying e = some .string) (hc : P.cellsOf e = 1)
    (hval : Value.okWide P W .any base t v) (h : DataW.Trod enc P W 0 (fun _ => true) true t v d ps) : ∀ a m c, v = .slice a m c → m ≤ c ∧ c ≤ maxLen := by
  obtain ⟨a0, len, cap, rfl⟩ := okWide_slice ht hval
  obtain ⟨fuel, hf⟩ := h
  rintro a m c hv
  simp at hv
  obtain ⟨rfl, rfl, rfl⟩ := hv
  rcases open_strings ht he hc hf with ⟨hcs, hx⟩ | ⟨x, len', cap', zs, hcs, _, hl, hm, hz, hx, hcell, hwz⟩
  · simp [Value.cells] at hcs
    obtain ⟨rfl, rfl, rfl⟩ := hcs
    exact ⟨Nat.le_refl _, by decide⟩
  · simp [Value.cells] at hcs
    obtain ⟨rfl, rfl, rfl⟩ := hcs
    exact ⟨hl, hm⟩
end
theorem frameBack_walk (v : Value) (xs : List (List UInt8)) (n : Int) (hn0 : -9223372036854775808 ≤ n) (hn1 : n ≤ 9223372036854775807) (w : World) (hv : Row (fun l => Value.string ⟨l.toArray⟩) (· < w.heap.size) w v xs) (hbig : xs.length * 16 ≤ 140737488351232)
    (hcap : ∀ a m c, v = .slice a m c → m ≤ c ∧ c ≤ maxLen) (ht : Tab w) (hT : BTab w) :
    Calls Tryd.prog 8 #[v, .int .i64 n] w fun e w' => e = .returned (.bool true) ∧ Below w.heap.size w w' :=
  frameBack_go v xs n hn0 hn1 w hv hbig hcap ht hT first_is
end Go.Proofs.YtjgoceebjmnjcaaDoor
