/- press.alike, and (*places).chain. -/
import Derived.Test.YtjlhhnkfedfdnaaFrame
import Derived.Test.YtjlhhnkfedfdnaaGen
import Derived.Test.YtjlhhnkfedfdnaaMarkMath
import Derived.Test.YtjlhhnkfedfdnaaOwnL
import Derived.Test.YtjlhhnkfedfdnaaPlaceMath
import Derived.Test.YtjlhhnkfedfdnaaPressMath
import Derived.Test.YtjlhhnkfedfdnaaReadMath
import Derived.Test.YtjlhhnkfedfdnaaReadW
import Derived.Test.YtjlhhnkfedfdnaaRefPrW
import Derived.Test.YtjlhhnkfedfdnaaRows
import Derived.BigQuiet
import Derived.Lib.Hide
import Derived.WalkKit
import Derived.WalkLawsBesides
import Derived.WalkSpells
set_option linter.unusedVariables false
namespace Go.Proofs.Ytjlhhnkfedfdnaa
open Go.RowKit

theorem alkF_alk {s : Txt} {a b m : Nat} (hm : m ≤ 259) (hb : m = 259 ∨ s.length ≤ b + m) : alkF s a b m = alk s a b := by
  have h := alkF_spec s m a b
  refine Alk.uniq ⟨?_, h.len, h.eq, ?_⟩ (alk_spec s a b)
  · have := h.le; omega
  · rcases h.stop with e | e | e
    · rcases hb with h1 | h1
      · left; omega
      · right; left; omega
    · exact .inr (.inl e)
    · exact .inr (.inr e)
set_option maxRecDepth 100000 in
set_option maxHeartbeats 1000000 in
theorem alike_press (s : Txt) (a b m : Nat) (w : World) (hs : s.length ≤ 1048576) (hab : a ≤ b) (hb : b + m ≤ s.length) (hm : m ≤ 259) :
    Calls Try.prog 38 #[.string ⟨(s.drop a).toArray⟩, .string ⟨((s.drop b).take m).toArray⟩] w fun e w' => e = .returned (.int .i64 (alkF s a b m : Nat)) ∧ Below w.heap.size w w' := by
  obtain ⟨X, hX⟩ : ∃ X, X = s.drop a := ⟨_, rfl⟩
  obtain ⟨Y, hY⟩ : ∃ Y, Y = (s.drop b).take m := ⟨_, rfl⟩
  have hXl : X.length = s.length - a := by rw [hX, List.length_drop]
  have hYl : Y.length = m := by rw [hY, List.length_take, List.length_drop]; omega
  have hXg : ∀ k, X[k]? = s[a + k]? := fun k => by rw [hX, List.getElem?_drop]
  have hYg : ∀ k, k < m → Y[k]? = s[b + k]? := fun k hk => by rw [hY, List.getElem?_take_of_lt hk, List.getElem?_drop]
  rw [← hX, ← hY]
  have HXG := Lib.hid hXg
  have HYG := Lib.hid hYg
  clear hX hY hXg hYg
  have SX := Lib.hid (show (⟨X.toArray⟩ : ByteArray).size = X.length from rfl)
  have SY := Lib.hid (show (⟨Y.toArray⟩ : ByteArray).size = m from hYl)
  have HXL := Lib.hid (show s.length - a = X.length from hXl.symm)
  have HYL := Lib.hid hYl
  subst hYl
  obtain ⟨res, hres⟩ : ∃ r, r = alkF s a b Y.length := ⟨_, rfl⟩
  have HA := Lib.hid (show alkF s (a + 0) (b + 0) (Y.length - 0) = res from hres.symm)
  rw [← hres]
  clear hres
  have hXl2 : X.length ≤ 1048576 := by omega
  clear hXl
  go_enter Try.func38, Try.ntmps38
  go_wp2_with fail
  go_loopw [8] (fun i wr => ∃ k : Nat, k ≤ Y.length ∧ i = .int .i64 k ∧ Hid (k + alkF s (a + k) (b + k) (Y.length - k) = res) ∧ Below w.heap.size w wr) (fun i _ => 259 - (intOf i).toNat)
  case atStart => exact ⟨0, by omega, rfl, Lib.hid (by rw [Nat.zero_add]; exact HA.out), Below.refl _ _⟩
  case round =>
    obtain ⟨k, hk, rfl, HF, hbel⟩ := hrel
    have HB := Lib.hid hbel
    clear hbel
    have i0 : (0 : Int) ≤ (k : Int) := by omega
    by_cases h1 : k < Y.length
    · have j1 : (k : Int) < (Y.length : Int) := by omega
      have hxk : k < X.length := by have := HXL.out; omega
      have j2 : (k : Int) < (X.length : Int) := by omega
      have hsx : s[a + k]? = some X[k] := by rw [← HXG.out k, List.getElem?_eq_getElem hxk]
      have hsy : s[b + k]? = some Y[k] := by rw [← HYG.out k h1, List.getElem?_eq_getElem h1]
      have hbk : b + k < s.length := by omega
      by_cases h3 : X[k] = Y[k]
      · have HN := Lib.hid (show k + 1 + alkF s (a + (k + 1)) (b + (k + 1)) (Y.length - (k + 1)) = res by
          rw [← HF.out, show Y.length - k = (Y.length - (k + 1)) + 1 by omega, alkF_go hbk (by rw [hsx, hsy, h3])]
          rw [Nat.add_assoc a k 1, Nat.add_assoc b k 1]; omega)
        have hx : (⟨X.toArray⟩ : ByteArray)[k]'hxk = (⟨Y.toArray⟩ : ByteArray)[k]'h1 := h3
        have q0 : (((((⟨X.toArray⟩ : ByteArray)[k]'hxk).toNat : Nat) : Int) != ((((⟨Y.toArray⟩ : ByteArray)[k]'h1).toNat : Nat) : Int)) = false := by rw [hx]; simp
        clear hx hsx hsy
        clear HF h3
        go_wp2_with fail
        go_quiet (fail)
        go_wp2_with fail
        go_roundw
        case rel => exact ⟨k + 1, by omega, by go_num, HN, Below_drewN HB.out nq⟩
        case measure => simp [intOf]; omega
      · have HN := Lib.hid (show k = res by
          rw [← HF.out, alkF_stop (by rw [hsx, hsy]; simp [h3])]; rfl)
        have q0 : (((((⟨X.toArray⟩ : ByteArray)[k]'hxk).toNat : Nat) : Int) != ((((⟨Y.toArray⟩ : ByteArray)[k]'h1).toNat : Nat) : Int)) = true := by
          rw [bne_iff_ne]
          exact fun e => h3 (UInt8.toNat_inj.1 (Int.ofNat_inj.1 e))
        clear HF h3 hsx hsy
        go_wp2_with fail
        go_quiet (fail)
        go_wp2_with fail
        go_ret
        exact ⟨by rw [← HN.out]; rfl, Below_drewN HB.out nq⟩
    · have j1 : ¬ (k : Int) < (Y.length : Int) := by omega
      have HN := Lib.hid (show Y.length = res by
        rw [← HF.out, show Y.length - k = 0 by omega]; show Y.length = k + 0; omega)
      clear HF
      go_wp2_with fail
      go_ret
      exact ⟨by rw [← HN.out]; rfl, HB.out⟩

/-! ### The chains' memory -/
def arrPF (s : Txt) (L A : Nat → Nat) (i : Nat) : Value := if i = 0 then .string ⟨s.toArray⟩ else if i ≤ 8192 then .int .i64 ((L (i - 1) : Nat) : Int) else .int .i64 ((A (i - 8193) : Nat) : Int)
def arrP (s : Txt) (L A : Nat → Nat) : Array Value := Array.ofFn (n := 12289) fun i => arrPF s L A i
theorem arrP_get (s : Txt) (L A : Nat → Nat) (i : Nat) (h : i < 12289) : (arrP s L A)[i]? = some (arrPF s L A i) := by
  unfold arrP
  rw [Array.getElem?_ofFn, dif_pos h]
theorem arrP_ext {a : Array Value} {s : Txt} {L A : Nat → Nat} (hs : a.size = 12289) (h : ∀ i, i < 12289 → a[i]? = some (arrPF s L A i)) : a = arrP s L A := by
  apply Array.ext_getElem?
  intro i
  by_cases hi : i < 12289
  · rw [h i hi, arrP_get s L A i hi]
  · rw [Array.getElem?_eq_none (by omega), Array.getElem?_eq_none (by unfold arrP; rw [Array.size_ofFn]; omega)]
theorem arrP_size (s : Txt) (L A : Nat → Nat) : (arrP s L A).size = 12289 := Array.size_ofFn
theorem arrP_setL (s : Txt) (L A : Nat → Nat) (c v : Nat) (hc : c < 8192) : (arrP s L A).setIfInBounds (1 + c) (.int .i64 (v : Int)) = arrP s (upd L c v) A := by
  refine arrP_ext (by rw [Array.size_setIfInBounds, arrP_size]) (fun i hi => ?_)
  rw [Array.getElem?_setIfInBounds]
  by_cases e : 1 + c = i
  · rw [if_pos e, if_pos (by rw [arrP_size]; omega)]
    unfold arrPF upd
    rw [if_neg (by omega), if_pos (by omega), if_pos (by omega)]
  · rw [if_neg e, arrP_get s L A i hi]
    unfold arrPF upd
    by_cases h0 : i = 0
    · rw [if_pos h0, if_pos h0]
    · rw [if_neg h0, if_neg h0]
      by_cases h1 : i ≤ 8192
      · rw [if_pos h1, if_pos h1, if_neg (by omega)]
      · rw [if_neg h1, if_neg h1]
theorem arrP_setA (s : Txt) (L A : Nat → Nat) (r v : Nat) (hr : r < 4096) : (arrP s L A).setIfInBounds (8193 + r) (.int .i64 (v : Int)) = arrP s L (upd A r v) := by
  refine arrP_ext (by rw [Array.size_setIfInBounds, arrP_size]) (fun i hi => ?_)
  rw [Array.getElem?_setIfInBounds]
  by_cases e : 8193 + r = i
  · rw [if_pos e, if_pos (by rw [arrP_size]; omega)]
    unfold arrPF upd
    rw [if_neg (by omega), if_neg (by omega), if_pos (by omega)]
  · rw [if_neg e, arrP_get s L A i hi]
    unfold arrPF upd
    by_cases h0 : i = 0
    · rw [if_pos h0, if_pos h0]
    · rw [if_neg h0, if_neg h0]
      by_cases h1 : i ≤ 8192
      · rw [if_pos h1, if_pos h1]
      · rw [if_neg h1, if_neg h1, if_neg (by omega)]
def PlAt (w : World) (q : Nat) (s : Txt) (L A : Nat → Nat) : Prop := w.heap[q]? = some (.cells (arrP s L A) 35 (0, 0))
theorem PlAt.text {w : World} {q : Nat} {s : Txt} {L A : Nat → Nat} (h : PlAt w q s L A) : w.cell? ⟨q, 0, none⟩ = some (.string ⟨s.toArray⟩) := by
  rw [cell_of_row _ _ _ _ _ _ h, arrP_get s L A 0 (by omega)]
  rfl
theorem PlAt.cellL {w : World} {q : Nat} {s : Txt} {L A : Nat → Nat} (h : PlAt w q s L A) (c : Nat) (hc : c < 8192) : w.cell? ⟨q, 1 + c, none⟩ = some (.int .i64 ((L c : Nat) : Int)) := by
  rw [cell_of_row _ _ _ _ _ _ h, arrP_get s L A (1 + c) (by omega)]
  unfold arrPF
  rw [if_neg (by omega), if_pos (by omega), Nat.add_sub_cancel_left]
theorem PlAt.cellA {w : World} {q : Nat} {s : Txt} {L A : Nat → Nat} (h : PlAt w q s L A) (r : Nat) (hr : r < 4096) : w.cell? ⟨q, 8193 + r, none⟩ = some (.int .i64 ((A r : Nat) : Int)) := by
  rw [cell_of_row _ _ _ _ _ _ h, arrP_get s L A (8193 + r) (by omega)]
  unfold arrPF
  rw [if_neg (by omega), if_neg (by omega), Nat.add_sub_cancel_left]
theorem PlAt.frozen {w : World} {q : Nat} {s : Txt} {L A : Nat → Nat} (h : PlAt w q s L A) (k : Nat) : w.frozen? ⟨q, k, none⟩ = false := frozen_of_row w q k _ _ h
theorem PlAt.setL {w : World} {q : Nat} {s : Txt} {L A : Nat → Nat} (h : PlAt w q s L A) (c v : Nat) (hc : c < 8192) : PlAt (w.setCell ⟨q, 1 + c, none⟩ (.int .i64 (v : Int))) q s (upd L c v) A := by
  unfold PlAt
  rw [← arrP_setL s L A c v hc]
  exact heap_setCell_same w q (1 + c) _ _ _ h
theorem PlAt.setA {w : World} {q : Nat} {s : Txt} {L A : Nat → Nat} (h : PlAt w q s L A) (r v : Nat) (hr : r < 4096) : PlAt (w.setCell ⟨q, 8193 + r, none⟩ (.int .i64 (v : Int))) q s L (upd A r v) := by
  unfold PlAt
  rw [← arrP_setA s L A r v hr]
  exact heap_setCell_same w q (8193 + r) _ _ _ h
theorem app_rep {x : Value} {a b : List Value} {n m : Nat} (h1 : a = List.replicate n x) (h2 : b = List.replicate m x) : List.append a b = List.replicate (n + m) x := by
  rw [h1, h2]; exact List.replicate_append_replicate
theorem app_head {x y : Value} {a b : List Value} {n m : Nat} (h1 : a = y :: List.replicate n x) (h2 : b = List.replicate m x) : List.append a b = y :: List.replicate (n + m) x := by
  rw [h1, h2]; show y :: (List.replicate n x ++ List.replicate m x) = _; rw [List.replicate_append_replicate]
theorem app_end {x y : Value} {a : List Value} {n k : Nat} (h1 : a = y :: List.replicate n x) (h2 : n = k) : some (Value.agg a.toArray) = some (Value.agg (y :: List.replicate k x).toArray) := by rw [h1, h2]
theorem zero_list : Try.t35.zero = some (.agg (List.toArray (.string ⟨#[]⟩ :: List.replicate 12288 (.int .i64 0)))) := by
  unfold Try.t35
  dsimp only
  apply app_end
  · repeat' (first | exact (rfl : _ = List.replicate 48 _) | exact (rfl : _ = List.replicate 49 _) | exact (rfl : _ = _ :: List.replicate 47 _) | apply app_head | apply app_rep)
  · decide +kernel
theorem zero_arrP : (List.toArray (Value.string ⟨#[]⟩ :: List.replicate 12288 (.int .i64 0))) = arrP [] (fun _ => 0) (fun _ => 0) := by
  refine arrP_ext (by rw [List.size_toArray, List.length_cons, List.length_replicate]) (fun i hi => ?_)
  rw [List.getElem?_toArray]
  cases i with
  | zero => rfl
  | succ i =>
    rw [List.getElem?_cons_succ, List.getElem?_replicate, if_pos (by omega)]
    unfold arrPF
    rw [if_neg (by omega)]
    split <;> rfl
theorem zeroValue_of {P : Program} {t : TypeId} {i : TypeInfo} {v : Value} (w : World) (h : (typeInfo t).run P w = .ok i w) (hz : i.zero = some v) : (zeroValue t).run P w = .ok v w := by
  unfold zeroValue
  rw [Sem.run_bind, h, Result.andThen_ok, hz]
  rfl
theorem zero_places : Try.t35.zero = some (.agg (arrP [] (fun _ => 0) (fun _ => 0))) := zero_list.trans (congrArg (fun a => some (Value.agg a)) zero_arrP)
theorem infoPlaces (w : World) : (typeInfo 35).run Try.prog w = .ok Try.t35 w := Try.typeInfo35 w
theorem zeroPlaces_of (w : World) (v : Value) (hz : Try.t35.zero = some v) : (zeroValue 35).run Try.prog w = .ok v w := zeroValue_of w (infoPlaces w) hz
theorem zeroPlaces (w : World) : (zeroValue 35).run Try.prog w = .ok (.agg (arrP [] (fun _ => 0) (fun _ => 0))) w := zeroPlaces_of w _ zero_places
theorem wraps_u32 (n : Int) (h0 : 0 ≤ n) (h1 : n < 2 ^ 32) : IntKind.u32.wrap n = n := by rw [IntKind.wrap_u32]; omega
theorem u32_join8 (x y : Nat) (hx : x < 16777216) (hy : y < 256) : bits .or .u32 ((x : Int) * 256 % 4294967296) ((y : Int) % 4294967296) = ((x * 256 + y : Nat) : Int) := by
  rw [show (x : Int) * 256 % 4294967296 = (x : Int) * 256 by omega, show (y : Int) % 4294967296 = (y : Int) by omega,
    bits_join .u32 32 (by decide) wraps_u32 8 ((x : Int) * 256) (y : Int) (by omega) (by omega) (by omega) (by omega) (by omega) (by omega)]
  omega
set_option maxRecDepth 100000 in
set_option maxHeartbeats 1000000 in
theorem chain_press (s : Txt) (p q : Nat) (L A : Nat → Nat) (w : World) (hs : s.length ≤ 1048576) (hp : p + 4 ≤ s.length) (hpl : PlAt w q s L A) :
    Calls Try.prog 37 #[.pointer (some ⟨q, 0, none⟩), .int .i64 p] w fun e w' => e = .returned (.int .i64 (hashS s p : Nat)) ∧ w = w' := by
  have HP := Lib.hid hpl
  have HC := Lib.hid hpl.text
  have SL := Lib.hid (show (⟨s.toArray⟩ : ByteArray).size = s.length from rfl)
  clear hpl
  go_enter Try.func37, Try.ntmps37
  go_wp2_with fail
  go_loopw [5, 7] (fun v i wr => ∃ k : Nat, k ≤ 4 ∧ i = .int .i64 k ∧ v = .int .u32 (wordOf s p k : Nat) ∧ w = wr) (fun _ i _ => 4 - (intOf i).toNat)
  case atStart => exact ⟨0, by omega, rfl, rfl, rfl⟩
  case round =>
    obtain ⟨k, hk, rfl, rfl, rfl⟩ := hrel
    by_cases h1 : k < 4
    · have j1 : (k : Int) < 4 := by omega
      have j2 : (p : Int) + (k : Int) < (s.length : Int) := by omega
      have j3 : (0 : Int) ≤ (p : Int) + (k : Int) := by omega
      have hc := HC.out
      have hpk : p + k < s.length := by omega
      have HB := Lib.hid (show bits .or .u32 (((wordOf s p k : Nat) : Int) * 256 % 4294967296) (((((⟨s.toArray⟩ : ByteArray)[p + k]'hpk).toNat : Nat) : Int) % 4294967296) = ((wordOf s p (k + 1) : Nat) : Int) by
        have h1 := wordOf_lt s p k
        have h2 : 256 ^ k ≤ 256 ^ 3 := Nat.pow_le_pow_right (by decide) (by omega)
        have e : (⟨s.toArray⟩ : ByteArray)[p + k]'hpk = s[p + k] := rfl
        rw [e, u32_join8 _ _ (by omega) (UInt8.toNat_lt _)]
        show _ = ((wordOf s p k * 256 + (s.getD (p + k) 0).toNat : Nat) : Int)
        rw [List.getD_eq_getElem?_getD, List.getElem?_eq_getElem hpk]
        rfl)
      go_wp2_with fail
      go_roundw
      case rel => exact ⟨k + 1, by omega, by go_num, by rw [HB.out], trivial⟩
      case measure => simp [intOf]; omega
    · have j1 : ¬ (k : Int) < 4 := by omega
      obtain rfl : k = 4 := by omega
      have HH := Lib.hid (show ((wordOf s p 4 * 2654435769 % 4294967296 / 524288 : Nat) : Int) = (hashS s p : Nat) from rfl)
      have hwl := wordOf_lt s p 4
      generalize wordOf s p 4 = W at *
      go_wp2_with fail
      go_ret
      refine ⟨?_, rfl⟩
      rw [← HH.out, show ((W * 2654435769 % 4294967296 / 524288 : Nat) : Int) = (W : Int) * 2654435769 % 4294967296 / 524288 by omega]
      rfl

end Go.Proofs.Ytjlhhnkfedfdnaa
