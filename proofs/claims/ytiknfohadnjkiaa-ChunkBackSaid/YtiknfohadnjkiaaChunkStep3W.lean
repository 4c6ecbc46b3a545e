/- Stage 13's laws: what is asked of both boxes, walked. -/
import Derived.Test.YtiknfohadnjkiaaBoxC
import Derived.Test.YtiknfohadnjkiaaChunkMath
import Derived.Test.YtiknfohadnjkiaaChunkStepW
import Derived.Test.YtiknfohadnjkiaaFrame
import Derived.Test.YtiknfohadnjkiaaGen
import Derived.Test.YtiknfohadnjkiaaOwnL
import Derived.Test.YtiknfohadnjkiaaRefBoxW
import Derived.Test.YtiknfohadnjkiaaRefKeep2W
import Derived.Test.YtiknfohadnjkiaaRowN
import Derived.Test.YtiknfohadnjkiaaRows
import Derived.BigQuiet
import Derived.Deep.QuietTactic
import Derived.Deep.RegionHeld3
import Derived.Laws.ResultCell
import Derived.Lib.Hide
import Derived.Outline
import Derived.WalkKit
import Derived.WalkLawsBesides
import Derived.WalkSpells
set_option linter.unusedVariables false
namespace Go.Proofs.Ytiknfohadnjkiaa
open Go.RowKit

theorem missN_map (st : BoxS) (n : Int) : (missN st n).map (fun i : Nat => (i : Int)) = ((missB st).map (fun i : Nat => (i : Int))).take n.toNat := by
  unfold missN
  rw [List.map_take]
set_option maxRecDepth 100000 in
set_option maxHeartbeats 4000000 in
theorem step13_missing {BX : World → Nat → (Nat → Prop) → BoxS → Prop} (BC : BoxC BX) (o : OpC) (ho : OpOk o) (hk : o.kind = 1) (w : World) (b : Nat) (N : Nat → Prop) (base q g c : Nat) (st : BoxS) (hx : BX w b N st) (hd : DocB w base q g c st) (hq : ¬ N q) (hg : ¬ N g) :
    Calls Try.prog 17 #[.pointer (some ⟨b, 0, none⟩), .pointer (some ⟨q, 0, none⟩), opV o] w fun e w' => e = .returned (.bool true) ∧ ∃ N', BX w' b N' (stepB st o) ∧ DocB w' base q g c (stepB st o) ∧ ¬ N' q ∧ ¬ N' g ∧ (∀ i, N' i → N i ∨ w.heap.size ≤ i) ∧ Kept (fun i => N i ∨ i = g) w w' := by
  have HST := Lib.hid (show stepB st o = st by unfold stepB; rw [if_neg (by omega), if_pos (.inl hk)])
  have hon := ho.n
  have hbA : Below w.heap.size w (w.alloc (.cells #[.int .i64 o.kind, .int .i64 o.n, .int .i64 o.part.at', .int .i64 o.part.of', .string ⟨o.part.text.toArray⟩] 42)) := (Below.refl _ w).alloc (Nat.le_refl _) _
  have hlt := hd.lt
  have HS0 := Lib.hid (show SSt BX w (w.alloc (.cells #[.int .i64 o.kind, .int .i64 o.n, .int .i64 o.part.at', .int .i64 o.part.of', .string ⟨o.part.text.toArray⟩] 42)) b N N base q g c w.heap.size st st o from
    ⟨BC.kept hx (Kept.new hbA (fun _ => False)) (fun _ _ h => h), hd.new hbA, heap_alloc_new w _, fun i h => .inl h, hq, hg, fun h => absurd (BC.lt hx _ h) (Nat.lt_irrefl _), by omega, by omega, Kept.new hbA _⟩)
  rw [HST.out]
  have hml : ((missB st).map (fun i : Nat => (i : Int))).length ≤ 4096 := by
    rw [List.length_map, missB_len _ _ rfl]
    have : leftB st ≤ st.length := List.countP_le_length
    have := hd.len
    omega
  have HMN := Lib.hid (missN_map st o.n)
  clear hx hd hbA hlt HST
  obtain ⟨k, n, ⟨pa, po, pt⟩⟩ := o
  dsimp only at hk hon HMN
  subst hk
  obtain ⟨n1, n2⟩ := hon
  have MS := Lib.hid (fun X M (h : BX X b M st) => BC.missing n h ⟨n1, n2⟩)
  rw [HMN.out] at MS
  unfold opV
  dsimp only at *
  go_enter Try.func17, Try.ntmps17
  obtain ⟨c0, c1, c2, c3, c4⟩ := HS0.out.c2
  dsimp only at c0 c1 c2 c3 c4
  go_wp2_with fail
  generalize w.alloc (.cells #[.int .i64 1, .int .i64 n, .int .i64 pa, .int .i64 po, .string ⟨pt.toArray⟩] 42) = wA at *
  refine (refMissing13_any wA base q g c st HS0.out.doc).mono ?_
  rintro e w1 ⟨v1, rfl, ho1, hb1⟩
  have HS1 := Lib.hid (HS0.out.new BC hb1)
  have HO1 := Lib.hid (OwnN.row encI1_ok ho1)
  generalize (missB st).map (fun i : Nat => (i : Int)) = ml at *
  obtain ⟨a1, k1, hv1, hk1⟩ := HO1.out.slice
  subst hv1
  clear ho1 hb1 c0 c1 c2 c3 c4 HMN
  obtain ⟨c0, c1, c2, c3, c4⟩ := HS1.out.c2
  dsimp only at c0 c1 c2 c3 c4
  have MS1 := Lib.hid (MS.out w1 N HS1.out.bx)
  by_cases hn : n < (ml.length : Int)
  · by_cases hz : n < 0
    · have hem : ml.take n.toNat = [] := by
        rw [show n.toNat = 0 by omega]
        rfl
      rw [hem] at MS1
      clear hem
      go_wp2_with fail
      refine MS1.out.mono ?_
      rintro e w2 ⟨v2, rfl, ho2, hb2⟩
      have HS2 := Lib.hid (HS1.out.new BC hb2)
      obtain ⟨a2, k2, hv2, _⟩ := (OwnN.row encI1_ok ho2).slice
      have IN := Lib.hid (refInts12_same v2 (.slice none 0 0) [] w2 (OwnN.row encI1_ok ho2) (RowN.nil (fun _ => True) _ _ _) (by simp))
      subst hv2
      clear ho2 hb2 MS1 c0 c1 c2 c3 c4
      go_wp2_with fail
      refine IN.out.mono ?_
      rintro e w3 ⟨rfl, hb3⟩
      have HS3 := Lib.hid (HS2.out.new BC hb3)
      clear hb3
      go_wp2_with fail
      go_ret
      exact ⟨rfl, N, HS3.out.bx, HS3.out.doc, HS3.out.nq, HS3.out.ng, HS3.out.nw, HS3.out.kp⟩
    · obtain ⟨m, hm⟩ : ∃ m : Nat, m = n.toNat := ⟨_, rfl⟩
      have hnm : n = (m : Int) := by omega
      subst hnm
      rw [Int.toNat_natCast] at MS1
      have hmk : m ≤ ml.length := by omega
      have HT := Lib.hid (HO1.out.take m hmk)
      have j0 : (0 : Int) ≤ (m : Int) := by omega
      have j1 : (m : Int) ≤ (k1 : Int) := by omega
      clear hm
      go_wp2_with fail
      refine MS1.out.mono ?_
      rintro e w2 ⟨v2, rfl, ho2, hb2⟩
      have HS2 := Lib.hid (HS1.out.new BC hb2)
      obtain ⟨a2, k2, hv2, _⟩ := (OwnN.row encI1_ok ho2).slice
      have IN := Lib.hid (refInts12_same v2 _ (ml.take m) w2 (OwnN.row encI1_ok ho2) (HT.out.keep hb2) (by rw [List.length_take]; omega))
      rw [List.length_take, Nat.min_eq_left hmk] at hv2
      subst hv2
      clear ho2 hb2 MS1 c0 c1 c2 c3 c4
      go_wp2_with fail
      refine IN.out.mono ?_
      rintro e w3 ⟨rfl, hb3⟩
      have HS3 := Lib.hid (HS2.out.new BC hb3)
      clear hb3
      go_wp2_with fail
      go_ret
      exact ⟨rfl, N, HS3.out.bx, HS3.out.doc, HS3.out.nq, HS3.out.ng, HS3.out.nw, HS3.out.kp⟩
  · have hem : ml.take n.toNat = ml := List.take_of_length_le (by omega)
    rw [hem] at MS1
    clear hem
    go_wp2_with fail
    refine MS1.out.mono ?_
    rintro e w2 ⟨v2, rfl, ho2, hb2⟩
    have HS2 := Lib.hid (HS1.out.new BC hb2)
    obtain ⟨a2, k2, hv2, _⟩ := (OwnN.row encI1_ok ho2).slice
    have IN := Lib.hid (refInts12_same v2 _ ml w2 (OwnN.row encI1_ok ho2) (HO1.out.keep hb2) (by omega))
    subst hv2
    clear ho2 hb2 MS1 c0 c1 c2 c3 c4
    go_wp2_with fail
    refine IN.out.mono ?_
    rintro e w3 ⟨rfl, hb3⟩
    have HS3 := Lib.hid (HS2.out.new BC hb3)
    clear hb3
    go_wp2_with fail
    go_ret
    exact ⟨rfl, N, HS3.out.bx, HS3.out.doc, HS3.out.nq, HS3.out.ng, HS3.out.nw, HS3.out.kp⟩
end Go.Proofs.Ytiknfohadnjkiaa
