/- A signature that came in: what a walk is told of it. -/
import Derived.Test.YtcbodpcekjngbaaGreatFrame
import Derived.Test.YtcbodpcekjngbaaGreatGen
import Derived.Test.YtcbodpcekjngbaaGreatInfos
import Derived.Test.YtcbodpcekjngbaaGreatMarkMath
import Derived.Test.YtcbodpcekjngbaaGreatRollMath
import Derived.Test.YtcbodpcekjngbaaGreatRows
import Derived.Test.YtcbodpcekjngbaaGreatSignAW
import Derived.Test.YtcbodpcekjngbaaGreatSignMath
import Derived.Lib.SmallJoins
set_option linter.unusedVariables false
namespace Go.Proofs.YtcbodpcekjngbaaGreat
open Go.ChangeShapes Go.WideShapes Go.ChangeAt Go.RowKit

structure SigIs (W : World) (v : Value) (b n : Int) (vw vs : Value) (ws : List Int) (ms : List Txt) : Prop where
  val : v = sigV b n vw vs
  bb : -9223372036854775808 ≤ b ∧ b ≤ 9223372036854775807
  bn : -9223372036854775808 ≤ n ∧ n ≤ 9223372036854775807
  r1 : Row (Value.int .i64) (· < W.heap.size) W vw ws
  r2 : Row encT (· < W.heap.size) W vs ms
  c1 : ∃ a c, vw = .slice a ws.length c ∧ ws.length ≤ c
  c2 : ∃ a c, vs = .slice a ms.length c ∧ ms.length ≤ c
  bw : ∀ x ∈ ws, -9223372036854775808 ≤ x ∧ x ≤ 9223372036854775807
  l1 : ws.length * 8 ≤ 140737488351232
  l2 : ms.length * 16 ≤ 140737488351232
/-- A signature that came in. -/
def SigIn (W : World) (v : Value) : Prop := ∃ b n vw vs ws ms, SigIs W v b n vw vs ws ms

section
variable {H : Type} {enc : TypeId × Value → H} {P : Program} {W : World} {t e ti ts tw tl : TypeId} {v : Value} {d : DataW H} {ps : List MemPlace} {base : Nat}

theorem sig_ints {fuel : Nat} {c : Value} {x : DataW H × List MemPlace} (ht : P.underlying t = some (.slice e)) (he : P.underlying e = some (.int .i64)) (hc : P.cellsOf e = 1) (hb : P.bytesOf e = 8)
    (h : DataW.trod enc P W 0 (fun _ => true) true fuel t [c] = some x) (hw : ∀ n ∈ x.1.weights P t, n ≤ reachBytes) (hlt : ∀ y ∈ x.2, y.block < W.heap.size) :
    ∃ xs : List Int, Row (Value.int .i64) (· < W.heap.size) W c xs ∧ (∃ a k, c = .slice a xs.length k ∧ xs.length ≤ k) ∧ xs.length * 8 ≤ 140737488351232 ∧ ∀ n ∈ xs, -9223372036854775808 ≤ n ∧ n ≤ 9223372036854775807 := by
  rcases open_ints ht he hc h with ⟨hcs, hx⟩ | ⟨x', len, cap, zs, hcs, _, hl, hm, hz, hx, hcell, hwz⟩
  · simp at hcs
    subst hcs
    exact ⟨[], Row.nil _ _ _, ⟨_, _, rfl, by simp⟩, by decide, by simp⟩
  · simp at hcs
    subst hcs
    subst hx
    simp only [if_true] at hz
    have hlen : (zs.take len).length = len := by rw [List.length_take]; omega
    refine ⟨zs.take len, ⟨some x', cap, by rw [hlen], fun i hi => ?_⟩, ⟨_, _, by rw [hlen], by omega⟩, ?_, fun n hn => bounds_i64 (hwz n (List.mem_of_mem_take hn))⟩
    · have hi' : i < len := by omega
      have hcl := hcell i (by omega)
      obtain ⟨b, off, spot⟩ := x'
      have hspot : spot = none := by simpa [Addr.add] using World.cell?_spot (hcell 0 (by omega))
      subst hspot
      refine ⟨b, off, rfl, hlt (.cell b off) (MemPlace.mem_row.2 ⟨0, by omega, by simp⟩), ?_⟩
      have e1 : (⟨b, off, none⟩ : Addr).add i = ⟨b, off + i, none⟩ := by simp [Addr.add]
      rw [e1] at hcl
      rw [hcl, List.getElem_take, List.getD_eq_getElem?_getD, List.getElem?_eq_getElem (by omega)]
      rfl
    · have := hw ((lits (H := H) .i64 (zs.take len)).length * 8 + (lits (H := H) .i64 (zs.drop len)).length * 8) (by
        simp [DataW.weights, ht, hb, Nat.add_mul])
      simp only [lits, List.length_map, reachBytes] at this
      omega
theorem sig_texts {fuel : Nat} {c : Value} {x : DataW H × List MemPlace} (ht : P.underlying t = some (.slice e)) (he : P.underlying e = some .string) (hc : P.cellsOf e = 1) (hb : P.bytesOf e = 16)
    (h : DataW.trod enc P W 0 (fun _ => true) true fuel t [c] = some x) (hw : ∀ n ∈ x.1.weights P t, n ≤ reachBytes) (hlt : ∀ y ∈ x.2, y.block < W.heap.size) :
    ∃ xs : List (List UInt8), Row encT (· < W.heap.size) W c xs ∧ (∃ a k, c = .slice a xs.length k ∧ xs.length ≤ k) ∧ xs.length * 16 ≤ 140737488351232 := by
  rcases open_strings ht he hc h with ⟨hcs, hx⟩ | ⟨x', len, cap, zs, hcs, _, hl, hm, hz, hx, hcell, hwz⟩
  · simp at hcs
    subst hcs
    exact ⟨[], Row.nil _ _ _, ⟨_, _, rfl, by simp⟩, by decide⟩
  · simp at hcs
    subst hcs
    subst hx
    simp only [if_true] at hz
    have hlen : ((zs.take len).map fun s => s.data.toList).length = len := by rw [List.length_map, List.length_take]; omega
    refine ⟨(zs.take len).map fun s => s.data.toList, ⟨some x', cap, by rw [hlen], fun i hi => ?_⟩, ⟨_, _, by rw [hlen], by omega⟩, ?_⟩
    · have hi' : i < len := by omega
      have hcl := hcell i (by omega)
      obtain ⟨b, off, spot⟩ := x'
      have hspot : spot = none := by simpa [Addr.add] using World.cell?_spot (hcell 0 (by omega))
      subst hspot
      refine ⟨b, off, rfl, hlt (.cell b off) (MemPlace.mem_row.2 ⟨0, by omega, by simp⟩), ?_⟩
      have e1 : (⟨b, off, none⟩ : Addr).add i = ⟨b, off + i, none⟩ := by simp [Addr.add]
      rw [e1] at hcl
      rw [hcl, List.getElem_map, List.getElem_take, List.getD_eq_getElem?_getD, List.getElem?_eq_getElem (by omega)]
      simp
    · have := hw ((strs (H := H) (zs.take len)).length * 16 + (strs (H := H) (zs.drop len)).length * 16) (by
        simp [DataW.weights, ht, hb, Nat.add_mul])
      simp only [strs, List.length_map, reachBytes] at this
      rw [hlen]
      rw [List.length_take, List.length_drop] at this
      omega

theorem arg_sig {f0 f1 f2 f3 : Field} (hs : P.underlying t = some (.struct #[f0, f1, f2, f3])) (hint : P.underlying ti = some (.int .i64)) (hwl : P.underlying tw = some (.slice ti)) (hstr : P.underlying ts = some .string) (hsl : P.underlying tl = some (.slice ts))
    (hf : f0.type = ti ∧ f1.type = ti ∧ f2.type = tw ∧ f3.type = tl ∧ f0.offset = 0 ∧ f1.offset = 1 ∧ f2.offset = 2 ∧ f3.offset = 3) (hct : P.cellsOf t = 4) (hci : P.cellsOf ti = 1) (hcs : P.cellsOf ts = 1) (hcw : P.cellsOf tw = 1) (hcl : P.cellsOf tl = 1) (hbi : P.bytesOf ti = 8) (hbs : P.bytesOf ts = 16)
    (hval : Value.okWide P W .any base t v) (h : DataW.Trod enc P W 0 (fun _ => true) true t v d ps) (hw : ∀ n ∈ d.weights P t, n ≤ reachBytes) (hlt : ∀ x ∈ ps, x.block < W.heap.size) : SigIn W v := by
  obtain ⟨cs, rfl, hsz⟩ := okWide_struct hs hval
  obtain ⟨fuel, hfu⟩ := h
  obtain ⟨t0, t1, t2, t3, o0, o1, o2, o3⟩ := hf
  obtain ⟨y0, y1, y2, y3, n', hy, hlen, k0, k1, k2, k3⟩ := Joins.trod_struct4 hs hfu
  rw [hct] at hsz
  obtain ⟨l⟩ := cs
  match l, hsz with
  | [c0, c1, c2, c3], _ =>
    rw [t0, o0, hci] at k0
    rw [t1, o1, hci] at k1
    rw [t2, o2, hcw] at k2
    rw [t3, o3, hcl] at k3
    simp [Value.cells] at k0 k1 k2 k3
    obtain ⟨q0, e0, d0, w0⟩ := DataW.trod_int hint k0
    obtain ⟨q1, e1, d1, w1⟩ := DataW.trod_int hint k1
    simp at e0 e1
    subst e0; subst e1
    simp only [Prod.mk.injEq] at hy
    obtain ⟨rfl, rfl⟩ := hy
    have hww : ∀ (j : Nat) (f : Field) (x : DataW H), #[f0, f1, f2, f3].toList[j]? = some f → [y0.1, y1.1, y2.1, y3.1][j]? = some x → ∀ n ∈ x.weights P f.type, n ≤ reachBytes := by
      intro j f x hj hx n hn
      refine hw n ?_
      rw [DataW.weights, hs]
      refine DataW.weights_mem_each (j := j) (t := f.type) (d := x) ?_ hx n hn
      have hj' : [f0, f1, f2, f3][j]? = some f := hj
      show ([f0, f1, f2, f3].map (·.type))[j]? = _
      rw [List.getElem?_map, hj']
      rfl
    obtain ⟨ws, r1, c1, l1, b1⟩ := sig_ints hwl hint hci hbi k2 (by have := hww 2 f2 y2.1 rfl rfl; rwa [t2] at this) (fun y hy => hlt y (by simp [hy]))
    obtain ⟨ms, r2, c2, l2⟩ := sig_texts hsl hstr hcs hbs k3 (by have := hww 3 f3 y3.1 rfl rfl; rwa [t3] at this) (fun y hy => hlt y (by simp [hy]))
    exact ⟨q0, q1, _, _, ws, ms, rfl, bounds_i64 w0, bounds_i64 w1, r1, r2, c1, c2, b1, l1, l2⟩
end
end Go.Proofs.YtcbodpcekjngbaaGreat
