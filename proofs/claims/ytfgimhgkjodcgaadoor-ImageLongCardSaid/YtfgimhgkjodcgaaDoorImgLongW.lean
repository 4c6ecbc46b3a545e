/- The walk of ImageLong: eight files of 65536 zero bytes and less. -/
import Derived.Test.YtfgimhgkjodcgaaDoorArgTree
import Derived.Test.YtfgimhgkjodcgaaDoorArgs3
import Derived.Test.YtfgimhgkjodcgaaDoorCodeMath
import Derived.Test.YtfgimhgkjodcgaaDoorFrame
import Derived.Test.YtfgimhgkjodcgaaDoorGen
import Derived.Test.YtfgimhgkjodcgaaDoorBdX
import Derived.Test.YtfgimhgkjodcgaaDoorMeX
import Derived.Test.YtfgimhgkjodcgaaDoorImgMath
import Derived.Test.YtfgimhgkjodcgaaDoorInfos
import Derived.Test.YtfgimhgkjodcgaaDoorLists
import Derived.Test.YtfgimhgkjodcgaaDoorMake
import Derived.Test.YtfgimhgkjodcgaaDoorMarkMath
import Derived.Test.YtfgimhgkjodcgaaDoorOwnL
import Derived.Test.YtfgimhgkjodcgaaDoorPthX
import Derived.Test.YtfgimhgkjodcgaaDoorProg
import Derived.Test.YtfgimhgkjodcgaaDoorReadMath
import Derived.Test.YtfgimhgkjodcgaaDoorReadW
import Derived.Test.YtfgimhgkjodcgaaDoorCkX
import Derived.Test.YtfgimhgkjodcgaaDoorOfX
import Derived.Test.YtfgimhgkjodcgaaDoorRefReadW
import Derived.Test.YtfgimhgkjodcgaaDoorRefSortW
import Derived.Test.YtfgimhgkjodcgaaDoorTrX
import Derived.Test.YtfgimhgkjodcgaaDoorRowN
import Derived.Test.YtfgimhgkjodcgaaDoorRows
import Derived.Test.YtfgimhgkjodcgaaDoorShelf
import Derived.Test.YtfgimhgkjodcgaaDoorSoX
import Derived.Test.YtfgimhgkjodcgaaDoorTmX
import Derived.Test.YtfgimhgkjodcgaaDoorText
import Derived.Test.YtfgimhgkjodcgaaDoorTlX
import Derived.Test.YtfgimhgkjodcgaaDoorTreeMath
import Derived.BigQuiet
import Derived.BigRegion
import Derived.Deep.AppendLies
import Derived.Deep.Cut
import Derived.Deep.CutRange
import Derived.Deep.DeepCutAuto
import Derived.Deep.QuietTactic
import Derived.Deep.RegionLaw
import Derived.Laws.Externs
import Derived.Laws.RangeAny
import Derived.Lib.AppendStr
import Derived.Lib.Builder
import Derived.Lib.Hide
import Derived.Lib.Strings
import Derived.Lib.Walk
import Derived.LoopTactic
import Derived.Outline
import Derived.StillTail
import Derived.WalkKit
import Derived.WalkLawsBesides
import Derived.WalkSpells
set_option linter.unusedVariables false
namespace Go.Proofs.YtfgimhgkjodcgaaDoor
open Go.RowKit

theorem file_zeroI : (Value.agg #[.string ByteArray.empty, .int .i64 0, .string ByteArray.empty]).cells.size = 3 := rfl
/-- One that was built just now, behind others of the call's own, as a step of a region that draws. -/
theorem step_newI {α : Type} {enc : α → List Value} {k : Nat} {P : Program} {w : World} {ops : Array Oper} {o : Oper} {a : Act} {K : Act → World → Prop} {Q : Exit → Act → World → Prop} {E : Prop} (hgd : o.guard = none) (s x : Operand) (t e : TypeId) (z : Value) (bytes : Nat)
    (ho : o.op = .call { callee := .builtin .append, args := #[s, x], argTypes := #[t, t] }) (ht : P.underlying t = some (.slice e))
    (hinfo : (P.info? e).map (fun i => (i.zero, i.size, i.bytes)) = some (some z, k, bytes)) (hz : z.cells.size = k) (hk : 0 < k) (hE : EncN enc k)
    (base : Nat) (v : Value) (l : List α) (y : α) (p : Nat) (hs : a.eval s = v) (hown : OwnN enc k w base e v l) (hx : a.eval x = .slice (some ⟨p, 0, none⟩) 1 1) (hy : ElAt enc w p 0 y)
    (hlen : (l.length + 1) * bytes ≤ 140737488355328) (hlen2 : l.length + 1 ≤ maxLen) (hbase : base ≤ w.heap.size)
    (h : ∀ g c w', OwnN enc k w' base e (.slice (some ⟨g, 0, none⟩) (l.length + 1) c) (l ++ [y]) → TurnN base w v w' (.slice (some ⟨g, 0, none⟩) (l.length + 1) c) → K (a.put o.dst (.slice (some ⟨g, 0, none⟩) (l.length + 1) c)) w') :
    if Region.wanted o (yielded ops a.tmps) = true then Oper.wp P o a w K Q else E := by
  obtain ⟨i0, hi, hz0, hz1, hz2⟩ := info_parts hinfo
  refine step_append_lies w hgd s x t ho base _ i0 z k bytes ht hi hz0 hz1 hz2 hz hk v l.length (flatN enc l) hs hown ⟨p, 0, none⟩ 1 1 (enc y) hx (by rw [hE.len, Nat.one_mul]) ?_ (hE.one y) (by decide) hlen2 hlen hbase w.heap.size rfl ?_
  · intro j u hj
    rw [addr_add0]
    have := hy j u hj
    rwa [Nat.zero_add] at this
  · intro g cap w' hown' hg hat _
    refine h g cap w' ?_ ⟨(Below.refl base w).grown hg hbase (fun k hk => (World.ownsRow.lt hown k hk).1), ⟨hg.os, hg.tape, hg.output, hg.size, fun k hk hm => hg.block k hk (fun he => hm he.symm)⟩, fun g' hg' => ?_⟩
    · unfold OwnN
      rw [flatN_append, List.length_append, flatN_one]
      exact hown'
    · simp [Value.ownBlock] at hg'
      subst hg'
      rcases hat with e | e
      · exact .inl e
      · exact .inr (by omega)
def flZ (Z : Txt) (i : Nat) : FileD := ⟨[UInt8.ofNat (97 + i)], 0, Z⟩
def flP (Z : Txt) : Nat → List FileD
  | 0 => []
  | i + 1 => flP Z i ++ [flZ Z i]
theorem flP_len (Z : Txt) : ∀ i, (flP Z i).length = i
  | 0 => rfl
  | i + 1 => by unfold flP; rw [List.length_append, flP_len Z i]; rfl
/-- Zeros made in any world. -/
theorem make_all (N : Int) (n : Nat) (hN : N = n) (hn : n ≤ 1000000) : ∃ V : World → Value, ∃ W : World → World, ∀ w, (Instr.makeSlice 31 (.int .i64 N) (.int .i64 N)).run Tryd.prog w = .ok (V w) (W w) ∧ Own (W w) w.heap.size 5 (V w) (List.replicate n 0) ∧ Below w.heap.size w (W w) := by
  have h : ∀ w, ∃ p : Value × World, (Instr.makeSlice 31 (.int .i64 N) (.int .i64 N)).run Tryd.prog w = .ok p.1 p.2 ∧ Own p.2 w.heap.size 5 p.1 (List.replicate n 0) ∧ Below w.heap.size w p.2 := fun w => by
    obtain ⟨v, w', a, b, c⟩ := make_zeros (P := Tryd.prog) w 31 5 Tryd.underlying31 info_u8 w.heap.size n N hN (by omega) (Nat.le_refl _)
    exact ⟨(v, w'), a, b, c⟩
  exact ⟨fun w => (Classical.choose (h w)).1, fun w => (Classical.choose (h w)).2, fun w => Classical.choose_spec (h w)⟩
def f8 (Z Y : Txt) : List FileD := [⟨[97], 0, Z⟩, ⟨[98], 0, Z⟩, ⟨[99], 0, Z⟩, ⟨[100], 0, Z⟩, ⟨[101], 0, Z⟩, ⟨[102], 0, Z⟩, ⟨[103], 0, Z⟩, ⟨[104], 0, Y⟩]
theorem flP_set (Z Y : Txt) : (flP Z 8).set 7 ⟨[104], 0, Y⟩ = f8 Z Y := rfl
theorem file0 (p D : Txt) (h : D.length ≤ 65536) : fileE ⟨p, 0, D⟩ = 0 := by
  unfold fileE
  rw [if_neg (by simp), if_neg (by show ¬ 65536 < D.length; omega)]
theorem nb_len3 (m : Nat) (h1 : 16384 ≤ m) (h2 : m < 2097152) : (nb m).length = 3 := by
  unfold nb
  rw [numB_big 8 m (by omega), numB_big 7 (m / 128) (by omega), numB_small 7 (m / 128 / 128) (by omega)]
  rfl
theorem f8_img (Z Y : Txt) (n : Nat) (hn : n ≤ 100) (hZ : Z.length = 65536) (hY : Y.length = 65536 - n) : checkS (f8 Z Y) = 0 ∧ (imgB (f8 Z Y)).length = 524337 - n ∧ ∀ x ∈ f8 Z Y, FileOk x := by
  have z3 := nb_len3 65536 (by decide) (by decide)
  have y3 := nb_len3 (65536 - n) (by omega) (by omega)
  refine ⟨?_, ?_, fun x hx => ?_⟩
  · have ht : togS ((f8 Z Y).map (·.path)) = 0 := by
      show togS [[97], [98], [99], [100], [101], [102], [103], [104]] = 0
      decide +kernel
    unfold checkS
    rw [if_neg (fun k => k ht)]
    have hz : ∀ p, fileE ⟨p, 0, Z⟩ = 0 := fun p => file0 p Z (by omega)
    have hy : ∀ p, fileE ⟨p, 0, Y⟩ = 0 := fun p => file0 p Y (by omega)
    simp [f8, firstE, hz, hy]
  · have n1 : (nb 1).length = 1 := by decide +kernel
    have n0 : (nb 0).length = 1 := by decide +kernel
    have n8 : (nb 8).length = 1 := by decide +kernel
    simp [imgB, f8, hdsE, hdE, datE, tb, hZ, hY, n1, n0, n8, z3, y3]
    omega
  · simp only [f8, List.mem_cons, List.not_mem_nil, or_false] at hx
    rcases hx with rfl | rfl | rfl | rfl | rfl | rfl | rfl | rfl <;> exact ⟨by simp, by simp, by simp; omega⟩
set_option maxRecDepth 100000 in
set_option maxHeartbeats 4000000 in
theorem imageLong_walk (less : Int) (h0 : -9223372036854775808 ≤ less) (h1 : less ≤ 9223372036854775807) (w : World) :
    Calls Tryd.prog 4 #[.int .i64 less] w fun e w' => e = .returned (.bool true) ∧ Below w.heap.size w w' := by
  by_cases hm : less < 0 ∨ 100 < less
  · have hc : less < 0 ∨ (¬ less < 0 ∧ 100 < less) := by omega
    clear hm
    rcases hc with c1 | ⟨c1, c2⟩
    all_goals
      go_enter Tryd.func4, Tryd.ntmps4
      go_wp2_with fail
      refine (awake10_any _).mono ?_
      rintro e w3 ⟨rfl, hb3⟩
      go_wp2_with fail
      go_ret
      exact ⟨rfl, hb3⟩
  · have c1 : ¬ less < 0 := fun h => hm (.inl h)
    have c2 : ¬ 100 < less := fun h => hm (.inr h)
    clear hm
    obtain ⟨n, hn⟩ : ∃ n : Nat, less = (n : Int) := ⟨less.toNat, by omega⟩
    subst hn
    have hn : n ≤ 100 := by omega
    have hZl : (List.replicate 65536 (0 : UInt8)).length = 65536 := List.length_replicate
    obtain ⟨V, W, MK⟩ := make_all 65536 65536 (by decide) (by decide)
    generalize List.replicate 65536 (0 : UInt8) = Z at *
    have HMK := Lib.hid MK
    clear MK
    go_enter Tryd.func4, Tryd.ntmps4
    go_wp2_with fail
    go_loopw [3, 4] (fun v3 v4 wr => ∃ i : Nat, i ≤ 8 ∧ v4 = .int .i64 i ∧ OwnN encF 3 wr w.heap.size 33 v3 (flP Z i) ∧ Below w.heap.size w wr) (fun _ v4 _ => 8 - (intOf v4).toNat)
    case atStart => exact ⟨0, by omega, rfl, OwnN.nil _ _ _ _ _, Below.refl _ _⟩
    case round =>
      obtain ⟨i, hi, rfl, hown, hbel⟩ := hrel
      have HO := Lib.hid hown
      have HB := Lib.hid hbel
      clear hown hbel
      obtain ⟨oa, om, oc, hv⟩ := own_slice HO.out
      subst hv
      by_cases hlt : i < 8
      · have j1 : (i : Int) < 8 := by omega
        have j2 : (0 : Int) ≤ (i : Int) := by omega
        have mk := fun w => (HMK.out w).1
        have u0 : IntKind.i64.wrap (97 + (i : Int)) = 97 + (i : Int) := IntWalk.i64_in _ (by omega)
        have u1 : IntKind.u8.wrap (97 + (i : Int)) = 97 + (i : Int) := by
          show (97 + (i : Int)) % 256 = _
          omega
        obtain ⟨c, hc⟩ : ∃ c : UInt8, c = UInt8.ofNat (97 + i) := ⟨_, rfl⟩
        have hcn : (c.toNat : Int) = 97 + (i : Int) := by rw [hc]; simp; omega
        have OB := Lib.hid (fun X : World => show Own (X.alloc (.cells #[.int .u8 (97 + (i : Int))] 5)) X.heap.size 5 (.slice (some ⟨X.heap.size, 0, none⟩) 1 1) [c] from by
          have := World.ownsRow_lit (base := X.heap.size) (e := 5) (size := 1) X #[.int .u8 (97 + (i : Int))] 1 (Nat.le_refl _) (by decide) rfl
          rw [← hcn] at this ⊢
          exact this)
        have CV := Lib.hid (fun (X : World) (base : Nat) (v : Value) (l : Txt) (h : Own X base 5 v l) => own_string (P := Tryd.prog) X base 31 9 5 v l Tryd.underlying31 Tryd.underlying5 Tryd.underlying9 h)
        have a1 := CV.out (W wr.drew) _ _ _ (HMK.out wr.drew).2.1
        have a2 := CV.out ((W wr.drew).alloc (.cells #[.int .u8 (97 + (i : Int))] 5)) _ _ _ ((HMK.out wr.drew).2.1.alloc _)
        have a3 := CV.out (W (wr.alloc (.cells #[.int .u8 (97 + (i : Int))] 5)).drew) _ _ _ (HMK.out (wr.alloc (.cells #[.int .u8 (97 + (i : Int))] 5)).drew).2.1
        have b1 := CV.out (wr.alloc (.cells #[.int .u8 (97 + (i : Int))] 5)).drew _ _ _ (OB.out wr)
        have b2 := CV.out (W (wr.alloc (.cells #[.int .u8 (97 + (i : Int))] 5)).drew) _ _ _ (own_off (w := (wr.alloc (.cells #[.int .u8 (97 + (i : Int))] 5)).drew) (OB.out wr) (Kept.new (HMK.out (wr.alloc (.cells #[.int .u8 (97 + (i : Int))] 5)).drew).2.2 (fun _ => False)) (fun _ _ _ _ => id))
        have b3 := CV.out ((W wr.drew).alloc (.cells #[.int .u8 (97 + (i : Int))] 5)) _ _ _ (OB.out (W wr.drew))
        have NA := Lib.hid (fun (F : World) (hb : Below wr.heap.size wr F) => show OwnN encF 3 (F.alloc (.cells #[.string ⟨#[c]⟩, .int .i64 0, .string ⟨Z.toArray⟩] 33)) w.heap.size 33 (.slice oa om oc) (flP Z i) ∧ ElAt encF (F.alloc (.cells #[.string ⟨#[c]⟩, .int .i64 0, .string ⟨Z.toArray⟩] 33)) F.heap.size 0 ⟨[c], 0, Z⟩ ∧ Below w.heap.size w (F.alloc (.cells #[.string ⟨#[c]⟩, .int .i64 0, .string ⟨Z.toArray⟩] 33)) ∧ w.heap.size ≤ (F.alloc (.cells #[.string ⟨#[c]⟩, .int .i64 0, .string ⟨Z.toArray⟩] 33)).heap.size from by
          have hal : Below F.heap.size F (F.alloc (.cells #[.string ⟨#[c]⟩, .int .i64 0, .string ⟨Z.toArray⟩] 33)) := (Below.refl _ F).alloc (Nat.le_refl _) _
          have hb2 := HB.out.trans (hb.mono HB.out.size)
          refine ⟨(HO.out.new hb).new hal, fun r u hu => ?_, hb2.trans (hal.mono hb2.size), by have := hal.size; have := hb2.size; omega⟩
          rw [cell_of_row _ _ _ _ _ _ (heap_alloc_new _ _), Nat.zero_add]
          match r, hu with
          | 0, hu => exact hu
          | 1, hu => exact hu
          | 2, hu => exact hu)
        have N1 := Lib.hid (NA.out (W (wr.alloc (.cells #[.int .u8 (97 + (i : Int))] 5)).drew) (by
          have h1 : Below wr.heap.size wr (wr.alloc (.cells #[.int .u8 (97 + (i : Int))] 5)).drew := Below_drew ((Below.refl wr.heap.size wr).alloc (Nat.le_refl _) (.cells #[.int .u8 (97 + (i : Int))] 5))
          exact h1.trans ((HMK.out _).2.2.mono h1.size)))
        have N2 := Lib.hid (NA.out ((W wr.drew).alloc (.cells #[.int .u8 (97 + (i : Int))] 5)) (by
          have h1 : Below wr.heap.size wr wr.drew := Below_drew (Below.refl wr.heap.size wr)
          have h2 := h1.trans ((HMK.out wr.drew).2.2.mono h1.size)
          exact h2.alloc h2.size (.cells #[.int .u8 (97 + (i : Int))] 5)))
        have HSB := Lib.hid (show ((W wr.drew).alloc (.cells #[.int .u8 (97 + (i : Int))] 5)).heap.size = (W wr.drew).heap.size + 1 by simp)
        rw [HSB.out] at N2
        have HFZ := Lib.hid (show flP Z (i + 1) = flP Z i ++ [⟨[c], 0, Z⟩] by show flP Z i ++ [flZ Z i] = _; rw [hc]; rfl)
        have hfl := flP_len Z i
        have HFL := Lib.hid hfl
        clear hc hfl
        go_wp2_with fail
        have hfl : (flP Z i).length ≤ 8 := by rw [HFL.out]; omega
        go_region_law (first
          | ((with_reducible refine step_newI (enc := encF) (k := 3) (o := ⟨some 33, _, _, _, _, _⟩) rfl (.tmp 23) (.tmp 32) 22 33 _ 40 rfl Tryd.underlying22 info_file file_zeroI (Nat.succ_pos 2) encF_ok w.heap.size (.slice oa om oc) (flP Z i) ⟨[c], 0, Z⟩ (W (wr.alloc (.cells #[.int .u8 (97 + (i : Int))] 5)).drew).heap.size ?ev N1.out.1 ?ex N1.out.2.1 ?hl ?hm N1.out.2.2.2 ?_)
             case ev => simp [Act.eval]
             case ex => simp [Act.eval]
             case hl => omega
             case hm => unfold maxLen; omega
             intro g1 cc w7 ho7 ht7
             have HB7 := Lib.hid (N1.out.2.2.1.trans ht7.bel)
             have HO7 := Lib.hid ho7
             clear ho7 ht7)
          | ((with_reducible refine step_newI (enc := encF) (k := 3) (o := ⟨some 33, _, _, _, _, _⟩) rfl (.tmp 23) (.tmp 32) 22 33 _ 40 rfl Tryd.underlying22 info_file file_zeroI (Nat.succ_pos 2) encF_ok w.heap.size (.slice oa om oc) (flP Z i) ⟨[c], 0, Z⟩ ((W wr.drew).heap.size + 1) ?ev N2.out.1 ?ex N2.out.2.1 ?hl ?hm N2.out.2.2.2 ?_)
             case ev => simp [Act.eval]
             case ex => simp [Act.eval]
             case hl => omega
             case hm => unfold maxLen; omega
             intro g1 cc w7 ho7 ht7
             have HB7 := Lib.hid (N2.out.2.2.1.trans ht7.bel)
             have HO7 := Lib.hid ho7
             clear ho7 ht7))
        all_goals
          go_wp2_with fail
          go_roundw
          case rel => exact ⟨i + 1, by omega, by go_num, by rw [HFZ.out]; exact HO7.out, HB7.out⟩
          case measure => simp [intOf]; omega
      · obtain rfl : i = 8 := by omega
        have hne : flP Z 8 ≠ [] := fun h => by have := flP_len Z 8; rw [h] at this; cases this
        obtain ⟨g, c9, hv, hc9, hgb, hgl, hel, hfr⟩ := OwnN.at encF_ok HO.out hne
        injection hv with e1 e2 e3
        subst e1
        rw [flP_len] at e2 hc9
        have hlt7 : 7 < (flP Z 8).length := by rw [flP_len]; decide
        have d0 : wr.cell? ⟨g, 23, none⟩ = some (.string ⟨Z.toArray⟩) := (hel 7 hlt7).f2
        have f0 : wr.frozen? ⟨g, 23, none⟩ = false := hfr 23
        have PUT := Lib.hid (OwnN.put encF_ok HO.out 7 2 (.string ⟨(Z.take (65536 - n)).toArray⟩) ⟨[104], 0, Z.take (65536 - n)⟩ hlt7 (by decide) rfl)
        have HGB := Lib.hid (show w.heap.size ≤ g from hgb)
        have HW5 := Lib.hid (HB.out.trans (PUT.out.2.below HB.out.size (fun k e => by have := HGB.out; omega)))
        have SL := Lib.hid (show (⟨Z.toArray⟩ : ByteArray).size = 65536 from hZl)
        have EX := Lib.hid (show (⟨Z.toArray⟩ : ByteArray).extract 0 (65536 - n) = ⟨(Z.take (65536 - n)).toArray⟩ from by rw [slice_toArray]; simp)
        have hY : (Z.take (65536 - n)).length = 65536 - n := by rw [List.length_take, hZl]; omega
        obtain ⟨g1, g2, g3⟩ := f8_img Z (Z.take (65536 - n)) n hn hZl hY
        have HSE := Lib.hid (flP_set Z (Z.take (65536 - n)))
        rw [HSE.out] at PUT
        have HOK := Lib.hid g3
        have HIM := Lib.hid (show imgS (f8 Z (Z.take (65536 - n))) = if 524288 < 524337 - n then ([], 4) else (imgB (f8 Z (Z.take (65536 - n))), 0) by unfold imgS; rw [if_neg (fun k => k g1), g2])
        have HIL := Lib.hid g2
        have jo : (7 : Int) < (om : Int) := by omega
        clear e2 e3 hne hel hfr hlt7 hc9 hgb hgl HSE g1 g2 g3
        go_wp2_with fail
        rw [EX.out]
        generalize Z.take (65536 - n) = Y at *
        have PU := Lib.hid (show OwnN encF 3 (wr.setCell ⟨g, 23, none⟩ (.string ⟨Y.toArray⟩)) w.heap.size 33 (.slice (some ⟨g, 0, none⟩) om oc) (f8 Z Y) from PUT.out.1)
        have HW6 := Lib.hid (show Below w.heap.size w (wr.setCell ⟨g, 23, none⟩ (.string ⟨Y.toArray⟩)) from HW5.out)
        generalize wr.setCell ⟨g, 23, none⟩ (.string ⟨Y.toArray⟩) = w3 at *
        have IO := Lib.hid (iOf_any _ (f8 Z Y) w3 ((OwnN.row encF_ok PU.out).mono (fun _ _ => trivial)) HOK.out (by simp [f8]))
        have IZ := Lib.hid (fun w' (hb : Below w3.heap.size w3 w') => iSize_any (.slice (some ⟨g, 0, none⟩) om oc) (f8 Z Y) w' (((OwnN.row encF_ok PU.out).mono (fun _ _ => trivial) : RowN encF 3 (fun _ => True) w3 _ _).keep hb) HOK.out (by simp [f8]))
        clear PUT HW5 d0 f0 HO HB EX SL
        go_loopw [5, 6] (fun v5 v6 wr => ∃ k : Nat, k ≤ 8 ∧ v6 = .int .i64 k ∧ v5 = .int .i64 (1 + 6 * (k : Int)) ∧ wr = w3) (fun _ v6 _ => 8 - (intOf v6).toNat)
        case atStart => exact ⟨0, by omega, rfl, rfl, rfl⟩
        case round =>
          obtain ⟨k, hk, rfl, rfl, rfl⟩ := hrel
          by_cases hk8 : k < 8
          · have j1 : (k : Int) < 8 := by omega
            go_wp2_with fail
            go_roundw
            case rel => exact ⟨k + 1, by omega, by go_num, by go_num, trivial⟩
            case measure => simp [intOf]; omega
          · obtain rfl : k = 8 := by omega
            obtain ⟨img, hig⟩ : ∃ img, img = imgS (f8 Z Y) := ⟨_, rfl⟩
            rw [← hig] at IO IZ HIM
            clear hig
            by_cases hn49 : n < 49
            · have HI := Lib.hid (show img = ([], 4) by rw [HIM.out, if_pos (by omega)])
              rw [HI.out] at IO IZ
              have jt : (524288 : Int) < 524337 - (n : Int) := by omega
              go_wp2_with fail
              refine IO.out.mono ?_
              rintro e w4 ⟨rfl, hb4⟩
              have IZ4 := Lib.hid (IZ.out w4 hb4)
              have HW4 := Lib.hid (HW6.out.trans (hb4.mono HW6.out.size))
              clear hb4
              go_wp2_with fail
              refine IZ4.out.mono ?_
              rintro e w5 ⟨rfl, hb5⟩
              have HW7 := Lib.hid (HW4.out.trans (hb5.mono HW4.out.size))
              clear hb5
              have jt : (524288 : Int) < 524337 - (n : Int) := by omega
              go_wp2_with fail
              refine (awake10_any _).mono ?_
              rintro e w6 ⟨rfl, hb6⟩
              go_wp2_with fail
              go_ret
              exact ⟨rfl, HW7.out.trans (hb6.mono HW7.out.size)⟩
            · have HI := Lib.hid (show img = (imgB (f8 Z Y), 0) by rw [HIM.out, if_neg (by omega)])
              rw [HI.out] at IO IZ
              have hil := HIL.out
              generalize imgB (f8 Z Y) = ib at *
              dsimp only at IO IZ
              have q9 : ((ib.length : Int) == 524337 - (n : Int)) = true := by rw [beq_iff_eq]; omega
              clear HIM HI HIL hil
              have jt : ¬ (524288 : Int) < 524337 - (n : Int) := by omega
              go_wp2_with fail
              refine IO.out.mono ?_
              rintro e w4 ⟨rfl, hb4⟩
              have IZ4 := Lib.hid (IZ.out w4 hb4)
              have HW4 := Lib.hid (HW6.out.trans (hb4.mono HW6.out.size))
              clear hb4
              go_wp2_with fail
              refine IZ4.out.mono ?_
              rintro e w5 ⟨rfl, hb5⟩
              have HW7 := Lib.hid (HW4.out.trans (hb5.mono HW4.out.size))
              clear hb5
              have jt : ¬ (524288 : Int) < 524337 - (n : Int) := by omega
              go_wp2_with fail
              refine (awake10_any _).mono ?_
              rintro e w6 ⟨rfl, hb6⟩
              go_wp2_with fail
              go_ret
              exact ⟨rfl, HW7.out.trans (hb6.mono HW7.out.size)⟩
end Go.Proofs.YtfgimhgkjodcgaaDoor
