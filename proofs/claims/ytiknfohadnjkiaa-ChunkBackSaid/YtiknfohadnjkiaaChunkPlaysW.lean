/- ChunkPlays: the walk. -/
import Derived.Test.YtiknfohadnjkiaaBoxC
import Derived.Test.YtiknfohadnjkiaaChunkAwakeW
import Derived.Test.YtiknfohadnjkiaaChunkBoxM
import Derived.Test.YtiknfohadnjkiaaChunkMath
import Derived.Test.YtiknfohadnjkiaaChunkStep2W
import Derived.Test.YtiknfohadnjkiaaChunkStep3W
import Derived.Test.YtiknfohadnjkiaaChunkStep4W
import Derived.Test.YtiknfohadnjkiaaChunkStepW
import Derived.Test.YtiknfohadnjkiaaFrame
import Derived.Test.YtiknfohadnjkiaaGen
import Derived.Test.YtiknfohadnjkiaaOwnL
import Derived.Test.YtiknfohadnjkiaaRefBoxW
import Derived.Test.YtiknfohadnjkiaaRefKeep2W
import Derived.Test.YtiknfohadnjkiaaRowN
import Derived.Test.YtiknfohadnjkiaaRows
import Derived.BigQuiet
import Derived.Deep.QuietTactic
import Derived.Deep.RegionHeld3
import Derived.Laws.OwnMore
import Derived.Lib.Hide
import Derived.Outline
import Derived.WalkKit
import Derived.WalkLawsBesides
import Derived.WalkSpells
set_option linter.unusedVariables false
namespace Go.Proofs.Ytiknfohadnjkiaa
open Go.RowKit

theorem step13_any {BX : World → Nat → (Nat → Prop) → BoxS → Prop} (BC : BoxC BX) (o : OpC) (ho : OpOk o) (w : World) (b : Nat) (N : Nat → Prop) (base q g c : Nat) (st : BoxS) (hx : BX w b N st) (hd : DocB w base q g c st) (hq : ¬ N q) (hg : ¬ N g) :
    Calls Try.prog 17 #[.pointer (some ⟨b, 0, none⟩), .pointer (some ⟨q, 0, none⟩), opV o] w fun e w' => e = .returned (.bool true) ∧ ∃ N', BX w' b N' (stepB st o) ∧ DocB w' base q g c (stepB st o) ∧ ¬ N' q ∧ ¬ N' g ∧ (∀ i, N' i → N i ∨ w.heap.size ≤ i) ∧ Kept (fun i => N i ∨ i = g) w w' := by
  by_cases h0 : o.kind = 0
  · exact step13_put BC o ho h0 w b N base q g c st hx hd hq hg
  · by_cases h1 : o.kind = 1
    · exact step13_missing BC o ho h1 w b N base q g c st hx hd hq hg
    · by_cases h2 : o.kind = 2
      · exact step13_text BC o ho h2 w b N base q g c st hx hd hq hg
      · exact step13_clear BC o ho h0 h1 h2 w b N base q g c st hx hd hq hg
theorem made_flat {α : Type} {enc : α → List Value} {k : Nat} (hE : EncN enc k) (hk : 0 < k) (x : α) (n : Nat) : (madeCells (enc x).toArray (n * k)).toList = flatN enc (List.replicate n x) := by
  refine List.ext_getElem? fun j => ?_
  have hl : (flatN enc (List.replicate n x)).length = n * k := by rw [flatN_len hE, List.length_replicate]
  by_cases hj : j < n * k
  · have hd : j / k < n := (Nat.div_lt_iff_lt_mul hk).2 hj
    have hm : j % k < k := Nat.mod_lt _ hk
    have h1 := flatN_get hE (List.replicate n x) (j / k) (by rw [List.length_replicate]; exact hd) (j % k) hm
    rw [show j / k * k + j % k = j by rw [Nat.mul_comm]; exact Nat.div_add_mod j k, List.getElem_replicate] at h1
    rw [h1]
    have hz : j % (enc x).toArray.size < (enc x).toArray.size := by rw [List.size_toArray, hE.len]; exact hm
    unfold madeCells
    rw [Array.toList_map, List.getElem?_map, Array.toList_range, List.getElem?_range hj]
    simp only [Option.map_some]
    rw [getElem!_pos (enc x).toArray (j % (enc x).toArray.size) hz, List.getElem_toArray]
    simp only [List.size_toArray, hE.len]
    rw [List.getElem?_eq_getElem (by rw [hE.len]; exact hm)]
  · rw [List.getElem?_eq_none (by rw [Array.length_toList, size_madeCells]; omega), List.getElem?_eq_none (by omega)]
theorem info_place13 : (Try.prog.info? 65).map (fun i => (i.zero, i.size, i.bytes)) = some (some (.agg #[.bool false, .string ByteArray.empty]), 2, 24) := by kernel_rfl
theorem make_places (w : World) (n : Nat) (hn : n ≤ 4096) :
    ∃ w', (Instr.makeSlice 35 (.int .i64 (n : Int)) (.int .i64 (n : Int))).run Try.prog w = .ok (.slice (some ⟨w.heap.size, 0, none⟩) n n) w' ∧ OwnN encPc 2 w' w.heap.size 65 (.slice (some ⟨w.heap.size, 0, none⟩) n n) (List.replicate n none) ∧ Below w.heap.size w w' := by
  obtain ⟨i0, hi, hz0, hz1, hz2⟩ := info_parts info_place13
  obtain ⟨w', hr, hown, hg⟩ := run_make_full (P := Try.prog) w w.heap.size 35 65 i0 _ 2 Try.underlying35 hi hz0 hz1 .i64 .i64 n (by rw [hz2]; omega) (by unfold maxLen; omega) (Nat.le_refl _)
  refine ⟨w', hr, ?_, (Below.refl w.heap.size w).grown hg (Nat.le_refl _) (fun k hk => by cases hk)⟩
  unfold OwnN
  rw [List.length_replicate, ← made_flat encPc_ok (by decide) none n]
  exact hown
set_option maxRecDepth 100000 in
set_option maxHeartbeats 4000000 in
theorem chunkPlays_walk_of (CU : CutC) {BX : World → Nat → (Nat → Prop) → BoxS → Prop} (BC : BoxC BX) (n : Int) (hn : I64 n) (v : Value) (l : List OpC) (w : World) (hrow : RowN encOc 5 (· < w.heap.size) w v l) (hl : l.length ≤ 140737488351232) (hok : ∀ x ∈ l, OpOk x) :
    Calls Try.prog 4 #[.int .i64 n, v] w fun e w' => e = .returned (.bool true) ∧ Below w.heap.size w w' := by
  have HR := Lib.hid hrow
  have HOK := Lib.hid hok
  obtain ⟨va, vc, hv, hvc⟩ := hrow.slice
  subst hv
  obtain ⟨n1, n2⟩ := hn
  clear hrow hok
  go_enter Try.func4, Try.ntmps4
  by_cases hbad : n < 1 ∨ 4096 < n
  · have NW := Lib.hid (BC.newBad n w (by omega) ⟨n1, n2⟩)
    have hcs : n < 1 ∨ (¬ n < 1 ∧ 4096 < n) := by omega
    clear hbad
    rcases hcs with b1 | ⟨b1, b2⟩
    all_goals
      go_wp2_with fail
      refine NW.out.mono ?_
      rintro e w1 ⟨rfl, hb1⟩
      have HB1 := Lib.hid hb1
      clear hb1 NW
      go_wp2_with fail
      refine (awake13_any CU _).mono ?_
      rintro e w2 ⟨rfl, hb2⟩
      have HB2 := Lib.hid (HB1.out.trans (hb2.mono HB1.out.size))
      clear hb2
      go_wp2_with fail
      go_ret
      exact ⟨rfl, HB2.out⟩
  · have b1 : ¬ n < 1 := fun h => hbad (.inl h)
    have b2 : ¬ 4096 < n := fun h => hbad (.inr h)
    clear hbad
    have NW := Lib.hid (BC.newOk n w (by omega) (by omega))
    by_cases h60 : 60 < n
    · have hrl : (List.replicate n.toNat (none : Option (List UInt8))).length = n.toNat := List.length_replicate
      go_wp2_with fail
      refine NW.out.mono ?_
      rintro e w1 ⟨b, N, rfl, hx1, hn1, hb1⟩
      have HX1 := Lib.hid hx1
      have HB1 := Lib.hid hb1
      clear hx1 hn1 hb1 NW
      have OF := Lib.hid (BC.of HX1.out)
      rw [hrl, show ((n.toNat : Nat) : Int) = n by omega] at OF
      go_wp2_with fail
      refine OF.out.mono ?_
      rintro e w2 ⟨rfl, hb2⟩
      have HX2 := Lib.hid (BC.kept HX1.out (Kept.new hb2 (fun _ => False)) (fun _ _ h => h))
      have HB2 := Lib.hid (HB1.out.trans (hb2.mono HB1.out.size))
      clear hb2 OF HX1 HB1
      have LT := Lib.hid (BC.left HX2.out)
      rw [leftB_none, show ((n.toNat : Nat) : Int) = n by omega] at LT
      go_wp2_with fail
      refine LT.out.mono ?_
      rintro e w3 ⟨rfl, hb3⟩
      have HB3 := Lib.hid (HB2.out.trans (hb3.mono HB2.out.size))
      clear hb3 LT HB2 HX2
      go_wp2_with fail
      refine (awake13_any CU _).mono ?_
      rintro e w4 ⟨rfl, hb4⟩
      have HB4 := Lib.hid (HB3.out.trans (hb4.mono HB3.out.size))
      clear hb4
      go_wp2_with fail
      go_ret
      exact ⟨rfl, HB4.out⟩
    · obtain ⟨m, hm⟩ : ∃ m : Nat, m = n.toNat := ⟨_, rfl⟩
      have hnm : n = (m : Int) := by omega
      subst hnm
      rw [Int.toNat_natCast] at NW
      clear hm
      have hrl : (List.replicate m (none : Option (List UInt8))).length = m := List.length_replicate
      go_wp2_with fail
      refine NW.out.mono ?_
      rintro e w1 ⟨b, N, rfl, hx1, hn1, hb1⟩
      have HX1 := Lib.hid hx1
      have HN1 := Lib.hid hn1
      have HB1 := Lib.hid hb1
      have HLT1 := Lib.hid (fun i hi => BC.lt hx1 i hi)
      clear hx1 hn1 hb1 NW
      obtain ⟨w2, hr2, ho2, hb2⟩ := make_places w1 m (by omega)
      have hglt := (ho2.lt (g := w1.heap.size) rfl).2.1
      have hbB : Below w2.heap.size w2 (w2.alloc (.cells #[.slice (some ⟨w1.heap.size, 0, none⟩) m m] 37)) := (Below.refl _ w2).alloc (Nat.le_refl _) _
      have HDC := Lib.hid (show DocB (w2.alloc (.cells #[.slice (some ⟨w1.heap.size, 0, none⟩) m m] 37)) w1.heap.size w2.heap.size w1.heap.size m (List.replicate m none) from
        ⟨by rw [hrl]; exact heap_alloc_new w2 _, by rw [hrl]; exact ho2.new hbB, by omega, by omega, by rw [hrl]; omega, by rw [allB_none]; simp⟩)
      have HXC := Lib.hid (BC.kept HX1.out (Kept.new (hb2.trans (hbB.mono hb2.size)) (fun _ => False)) (fun _ _ h => h))
      have HBC := Lib.hid (HB1.out.trans ((hb2.trans (hbB.mono hb2.size)).mono HB1.out.size))
      have hq0 : ¬ N w2.heap.size := fun h => by have := HLT1.out _ h; omega
      have hg0 : ¬ N w1.heap.size := fun h => by have := HLT1.out _ h; omega
      have hbb : w.heap.size ≤ w1.heap.size := HB1.out.size
      clear ho2 hb2 hbB HX1 HB1 HLT1
      go_wp2_with fail
      generalize w2.alloc (.cells #[.slice (some ⟨w1.heap.size, 0, none⟩) m m] 37) = w3 at *
      obtain ⟨qb, hqb⟩ : ∃ qb, qb = w2.heap.size := ⟨_, rfl⟩
      obtain ⟨gb, hgb⟩ : ∃ gb, gb = w1.heap.size := ⟨_, rfl⟩
      rw [← hqb] at HDC hq0 ⊢
      rw [← hgb] at HDC hg0 hbb
      clear hqb hgb hr2 hglt
      go_loopw [8] (fun v8 wr => ∃ (i : Nat) (M : Nat → Prop) (st : BoxS), i ≤ l.length ∧ v8 = .int .i64 (i : Nat) ∧ st.length = m ∧ BX wr b M st ∧ DocB wr gb qb gb m st ∧ Hid (¬ M qb ∧ ¬ M gb ∧ ∀ i, M i → w.heap.size ≤ i) ∧ Below w.heap.size w wr) (fun v8 _ => l.length - (intOf v8).toNat)
      case atStart => exact ⟨0, N, _, Nat.zero_le _, rfl, hrl, HXC.out, HDC.out, Lib.hid ⟨hq0, hg0, HN1.out⟩, HBC.out⟩
      case round =>
        obtain ⟨i, M, st, hi, rfl, hsl, hx, hd, HM, hb⟩ := hrel
        have HX := Lib.hid hx
        have HD := Lib.hid hd
        have HB := Lib.hid hb
        clear hx hd hb HXC HDC HBC HN1 hq0 hg0
        have i0 : (0 : Int) ≤ (i : Int) := by omega
        by_cases hlt : i < l.length
        · have j1 : (i : Int) < (l.length : Int) := by omega
          by_cases h80 : i < 80
          · have j2 : (i : Int) < 80 := by omega
            obtain ⟨b5, o5, c5, hv, hn5, hel⟩ := (HR.out.keep HB.out).at hlt
            injection hv with ea eb ec
            subst ea; subst ec
            clear eb
            have hox := HOK.out _ (List.getElem_mem hlt)
            generalize l[i] = x at *
            have ST := Lib.hid (step13_any BC x hox wr b M gb qb gb m st HX.out HD.out HM.out.1 HM.out.2.1)
            have d0 := hel 0 _ rfl
            have d1 := hel 1 _ rfl
            have d2 := hel 2 _ rfl
            have d3 := hel 3 _ rfl
            have d4 := hel 4 _ rfl
            rw [Nat.add_zero] at d0
            clear hel
            have HSL := Lib.hid (show (stepB st x).length = m by rw [stepB_len, hsl])
            obtain ⟨xk, xn, ⟨xa, xo, xt⟩⟩ := x
            unfold opV at ST
            dsimp only at d0 d1 d2 d3 d4 ST
            clear hox
            go_wp2_with fail
            refine ST.out.mono ?_
            rintro e w5 ⟨rfl, N5, hx5, hd5, hq5, hg5, hn5', hk5⟩
            have HX5 := Lib.hid hx5
            have HD5 := Lib.hid hd5
            have HM5 := Lib.hid (show ¬ N5 qb ∧ ¬ N5 gb ∧ ∀ i, N5 i → w.heap.size ≤ i from ⟨hq5, hg5, fun j hj => (hn5' j hj).elim (fun h => HM.out.2.2 j h) (fun h => Nat.le_trans HB.out.size h)⟩)
            have HB5 := Lib.hid (HB.out.trans (hk5.below HB.out.size (fun j hj => by
              rcases hj with h | h
              · exact HM.out.2.2 j h
              · rw [h]; exact hbb)))
            clear hx5 hd5 hq5 hg5 hn5' hk5 ST HX HD HM HB d0 d1 d2 d3 d4 hsl
            generalize stepB st ⟨xk, xn, ⟨xa, xo, xt⟩⟩ = st5 at *
            have LT := Lib.hid (BC.left HX5.out)
            go_wp2_with fail
            refine LT.out.mono ?_
            rintro e w6 ⟨rfl, hb6⟩
            have HX6 := Lib.hid (BC.kept HX5.out (Kept.new hb6 (fun _ => False)) (fun _ _ h => h))
            have HD6 := Lib.hid (HD5.out.new hb6)
            have HB6 := Lib.hid (HB5.out.trans (hb6.mono HB5.out.size))
            clear hb6 LT HX5 HD5 HB5
            go_wp2_with fail
            refine (refMissing13_any w6 gb qb gb m st5 HD6.out).mono ?_
            rintro e w7 ⟨v7, rfl, ho7, hb7⟩
            obtain ⟨a7, c7, hv7, _⟩ := (OwnN.row encI1_ok ho7).slice
            rw [List.length_map, missB_len _ _ rfl] at hv7
            subst hv7
            have HX7 := Lib.hid (BC.kept HX6.out (Kept.new hb7 (fun _ => False)) (fun _ _ h => h))
            have HD7 := Lib.hid (HD6.out.new hb7)
            have HB7 := Lib.hid (HB6.out.trans (hb7.mono HB6.out.size))
            clear hb7 ho7 HX6 HD6 HB6
            have e1 : (((leftB st5 : Nat) : Int) != ((leftB st5 : Nat) : Int)) = false := by simp
            generalize leftB st5 = lf at *
            have OF := Lib.hid (BC.of HX7.out)
            rw [HSL.out] at OF
            have e2 : ((m : Int) != (m : Int)) = false := by simp
            go_wp2_with fail
            refine OF.out.mono ?_
            rintro e w8 ⟨rfl, hb8⟩
            have HX8 := Lib.hid (BC.kept HX7.out (Kept.new hb8 (fun _ => False)) (fun _ _ h => h))
            have HD8 := Lib.hid (HD7.out.new hb8)
            have HB8 := Lib.hid (HB7.out.trans (hb8.mono HB7.out.size))
            clear hb8 OF HX7 HD7 HB7
            go_wp2_with fail
            go_roundw
            case rel => exact ⟨i + 1, N5, st5, hlt, by go_num, HSL.out, HX8.out, HD8.out, HM5, HB8.out⟩
            case measure => simp [intOf]; omega
          · have j2 : ¬ (i : Int) < 80 := by omega
            go_wp2_with fail
            refine (awake13_any CU _).mono ?_
            rintro e w9 ⟨rfl, hb9⟩
            have HB9 := Lib.hid (HB.out.trans (hb9.mono HB.out.size))
            clear hb9
            go_wp2_with fail
            go_ret
            exact ⟨rfl, HB9.out⟩
        · have j1 : ¬ (i : Int) < (l.length : Int) := by omega
          go_wp2_with fail
          refine (awake13_any CU _).mono ?_
          rintro e w9 ⟨rfl, hb9⟩
          have HB9 := Lib.hid (HB.out.trans (hb9.mono HB.out.size))
          clear hb9
          go_wp2_with fail
          go_ret
          exact ⟨rfl, HB9.out⟩
end Go.Proofs.Ytiknfohadnjkiaa
