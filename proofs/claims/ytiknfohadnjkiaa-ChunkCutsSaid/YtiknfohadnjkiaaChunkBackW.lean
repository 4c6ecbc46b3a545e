/- ChunkBack: the walk. -/
import Derived.Test.YtiknfohadnjkiaaBoxC
import Derived.Test.YtiknfohadnjkiaaChunkAwakeW
import Derived.Test.YtiknfohadnjkiaaChunkCutsW
import Derived.Test.YtiknfohadnjkiaaChunkFillM
import Derived.Test.YtiknfohadnjkiaaChunkMath
import Derived.Test.YtiknfohadnjkiaaFrame
import Derived.Test.YtiknfohadnjkiaaGen
import Derived.Test.YtiknfohadnjkiaaOwnL
import Derived.Test.YtiknfohadnjkiaaOwnPut
import Derived.Test.YtiknfohadnjkiaaRefBoxW
import Derived.Test.YtiknfohadnjkiaaRefKeep2W
import Derived.Test.YtiknfohadnjkiaaRowN
import Derived.Test.YtiknfohadnjkiaaRows
import Derived.BigQuiet
import Derived.Deep.QuietTactic
import Derived.Deep.RegionHeld3
import Derived.Lib.Hide
import Derived.Outline
import Derived.WalkKit
import Derived.WalkLawsBesides
import Derived.WalkSpells
set_option linter.unusedVariables false
namespace Go.Proofs.Ytiknfohadnjkiaa
open Go.RowKit

/-- What stands while the box is being filled. -/
structure FillS (BX : World → Nat → (Nat → Prop) → BoxS → Prop) (w0 W : World) (b : Nat) (M : Nat → Prop) (gl : Nat) (v : Value) (l : List (List UInt8)) (st : BoxS) : Prop where
  bx : BX W b M st
  fill : FillB l st
  own : OwnN encPt 3 W w0.heap.size 40 v (partsL l)
  blk : v.ownBlock = some gl
  ng : ¬ M gl
  nw : ∀ i, M i → w0.heap.size ≤ i
  bl : Below w0.heap.size w0 W
  fl : l.flatten.length ≤ 20000
theorem FillS.new {BX : World → Nat → (Nat → Prop) → BoxS → Prop} (BC : BoxC BX) {w0 W W' : World} {b : Nat} {M : Nat → Prop} {gl : Nat} {v : Value} {l : List (List UInt8)} {st : BoxS} (h : FillS BX w0 W b M gl v l st) (hb : Below W.heap.size W W') : FillS BX w0 W' b M gl v l st :=
  ⟨BC.kept h.bx (Kept.new hb (fun _ => False)) (fun _ _ h => h), h.fill, h.own.new hb, h.blk, h.ng, h.nw, h.bl.trans (hb.mono h.bl.size), h.fl⟩
theorem FillS.put {BX : World → Nat → (Nat → Prop) → BoxS → Prop} {w0 W W' : World} {b : Nat} {M M' : Nat → Prop} {gl : Nat} {v : Value} {l : List (List UInt8)} {st st' : BoxS} (h : FillS BX w0 W b M gl v l st) (hx : BX W' b M' st') (hf : FillB l st') (hn : ∀ i, M' i → M i ∨ W.heap.size ≤ i) (hk : Kept M W W') : FillS BX w0 W' b M' gl v l st' :=
  ⟨hx, hf, h.own.kept hk (fun g hg => by have : gl = g := Option.some.inj (h.blk.symm.trans hg); rw [← this]; exact h.ng), h.blk, fun c => (hn _ c).elim h.ng (fun k => by have := (h.own.lt h.blk).2.1; omega), fun i hi => (hn i hi).elim (h.nw i) (fun k => Nat.le_trans h.bl.size k), h.bl.trans (hk.below h.bl.size (fun j hj => h.nw j hj)), h.fl⟩
theorem FillS.at {BX : World → Nat → (Nat → Prop) → BoxS → Prop} {w0 W : World} {b : Nat} {M : Nat → Prop} {gl c : Nat} {l : List (List UInt8)} {st : BoxS} (h : FillS BX w0 W b M gl (.slice (some ⟨gl, 0, none⟩) l.length c) l st) {i : Nat} (hi : i < (partsL l).length) :
    W.cell? ⟨gl, i * 3, none⟩ = some (.int .i64 (partsL l)[i].at') ∧ W.cell? ⟨gl, i * 3 + 1, none⟩ = some (.int .i64 (partsL l)[i].of') ∧ W.cell? ⟨gl, i * 3 + 2, none⟩ = some (.string ⟨(partsL l)[i].text.toArray⟩) := by
  obtain ⟨g', c', hv, _, _, _, hel, hfz⟩ := h.own.atB encPt_ok (by intro e; rw [e] at hi; exact absurd hi (by simp))
  injection hv with ea _ _
  injection ea with ea
  injection ea with ea1 _ _
  subst ea1
  exact ⟨hel i hi 0 _ rfl, hel i hi 1 _ rfl, hel i hi 2 _ rfl⟩
theorem part_ok {l : List (List UInt8)} (hf : l.flatten.length ≤ 20000) (hl : l.length ≤ 500) (i : Nat) (hi : i < (partsL l).length) : PartOk (partsL l)[i] := by
  have hi2 : i < l.length := by rw [partsL_len] at hi; exact hi
  have ht : l[i].length ≤ l.flatten.length := (List.sublist_flatten_of_mem (List.getElem_mem hi2)).length_le
  rw [partsL_get l i hi]
  exact ⟨⟨by show (-9223372036854775808 : Int) ≤ (i : Int); omega, by show (i : Int) ≤ 9223372036854775807; omega⟩, ⟨by show (-9223372036854775808 : Int) ≤ (l.length : Int); omega, by show (l.length : Int) ≤ 9223372036854775807; omega⟩, by show l[i].length ≤ 140737488351232; omega⟩
theorem own_between {α : Type} {enc : α → List Value} {k : Nat} {w : World} {base : Nat} {e : TypeId} {v : Value} {xs : List α} (hE : EncN enc k) (h : OwnN enc k w base e v xs) : RowN enc k (fun g => base ≤ g ∧ g < w.heap.size) w v xs := by
  obtain ⟨a, c, rfl, hl, hc⟩ := OwnN.row hE h
  refine ⟨a, c, rfl, hl, fun i hi => ?_⟩
  obtain ⟨g, o, rfl, hb, hx⟩ := hc i hi
  exact ⟨g, o, rfl, ⟨hb, (h.lt (g := g) rfl).2.1⟩, hx⟩
/-- What a text is cut into. -/
theorem cut_cases (T : List UInt8) (size : Int) (hT : T.length ≤ 20000) :
    (cutE T size ≠ 0 ∧ cutP T size = []) ∨ ∃ l : List (List UInt8), cutE T size = 0 ∧ cutP T size = partsL l ∧ 0 < l.length ∧ l.length ≤ 4096 ∧ l.flatten = T := by
  by_cases h : cutE T size = 0
  · refine .inr ⟨cutL size.toNat T, h, by unfold cutP; rw [if_neg (by simp [h])], ?_, ?_, ?_⟩
    · have hs : ¬ size < 1 := fun c => by unfold cutE at h; rw [if_pos c] at h; exact absurd h (by decide)
      exact cutL_pos (by omega)
    · have := cutP_len T size
      unfold cutP at this
      rw [if_neg (by simp [h]), partsL_len] at this
      exact this
    · have hs : ¬ size < 1 := fun c => by unfold cutE at h; rw [if_pos c] at h; exact absurd h (by decide)
      exact cutL_flat T.length _ T (by omega) (Nat.le_refl _)
  · exact .inl ⟨h, by unfold cutP; rw [if_pos h]⟩
set_option maxRecDepth 100000 in
set_option maxHeartbeats 4000000 in
theorem chunkBack_walk_of (CU : CutC) {BX : World → Nat → (Nat → Prop) → BoxS → Prop} (BC : BoxC BX) (s : List UInt8) (size : Int) (v : Value) (ol : List Int) (hz : I64 size) (w : World) (hs : s.length ≤ 140737488351232) (hrow : RowN encI1 1 (· < w.heap.size) w v ol) (hol : ol.length ≤ 140737488351232) (hok : ∀ x ∈ ol, I64 x) :
    Calls Try.prog 5 #[.string ⟨s.toArray⟩, .int .i64 size, v] w fun e w' => e = .returned (.bool true) ∧ Below w.heap.size w w' := by
  have HR := Lib.hid hrow
  have HOK := Lib.hid hok
  obtain ⟨va, vc, hv, hvc⟩ := hrow.slice
  subst hv
  have SA := Lib.hid (show (⟨s.toArray⟩ : ByteArray).size = s.length from rfl)
  clear hrow hok
  go_enter Try.func5, Try.ntmps5
  obtain ⟨T, hT⟩ : ∃ T, T = if 20000 < s.length then s.take 20000 else s := ⟨_, rfl⟩
  have hTl : T.length ≤ 20000 := by
    rw [hT]
    split
    · rw [List.length_take]; omega
    · omega
  have HC := Lib.hid (cut_cases T size hTl)
  have C1 := Lib.hid (CU T size w (by omega) hz)
  have HTT : (20000 < s.length ∧ (⟨s.toArray⟩ : ByteArray).extract 0 20000 = ⟨T.toArray⟩) ∨ (¬ 20000 < s.length ∧ (⟨s.toArray⟩ : ByteArray) = ⟨T.toArray⟩) := by
    by_cases h2 : 20000 < s.length
    · rw [if_pos h2] at hT
      exact .inl ⟨h2, by rw [hT]; exact take_toArray s 20000⟩
    · rw [if_neg h2] at hT
      exact .inr ⟨h2, by rw [hT]⟩
  clear hT
  have hcut : (20000 < s.length ∧ (⟨s.toArray⟩ : ByteArray).extract 0 20000 = ⟨T.toArray⟩) ∨ (¬ 20000 < s.length ∧ s = T) := by
    rcases HTT with h | ⟨h1, h2⟩
    · exact .inl h
    · refine .inr ⟨h1, ?_⟩
      have := congrArg (fun x : ByteArray => x.data.toList) h2
      simpa using this
  clear HTT
  rcases hcut with ⟨k1, k2⟩ | ⟨k1, k2⟩
  · have j1 : (20000 : Int) < (s.length : Int) := by omega
    rcases HC.out with ⟨he, hp⟩ | ⟨l, he, hp, hl0, hl1, hlf⟩
    · rw [hp] at C1
      obtain ⟨e0, hee⟩ : ∃ e0, e0 = cutE T size := ⟨_, rfl⟩
      rw [← hee] at he C1
      clear hee hp
      have q1 : (e0 != 0) = true := by simp [he]
      clear he
      go_wp2_with fail
      refine C1.out.mono ?_
      rintro e w1 ⟨v1, rfl, ho1, hb1⟩
      obtain ⟨a1, c1, hv1, _⟩ := (OwnN.row encPt_ok ho1).slice
      subst hv1
      have HB1 := Lib.hid hb1
      clear ho1 hb1 C1
      go_wp2_with fail
      go_ret
      exact ⟨rfl, HB1.out⟩
    · rw [he, hp] at C1
      clear he hp HC
      have hpl := partsL_len l
      go_wp2_with fail
      refine C1.out.mono ?_
      rintro e w1 ⟨v1, rfl, ho1, hb1⟩
      obtain ⟨gl, cl, hv1, _, _, _, hel, _⟩ := ho1.atB encPt_ok (by intro c; rw [c] at hpl; simp at hpl; omega)
      subst hv1
      rw [hpl] at ho1 ⊢
      have x0 : w1.cell? ⟨gl, 1, none⟩ = some (.int .i64 (l.length : Nat)) := by
        have := hel 0 (by omega) 1 _ rfl
        rw [partsL_get] at this
        exact this
      have HB1 := Lib.hid hb1
      have HO1 := Lib.hid ho1
      clear ho1 hb1 C1 hel
      by_cases h500 : 500 < l.length
      · have j5 : (500 : Int) < (l.length : Int) := by omega
        have j6 : ((l.length : Int) == 0) = false := by rw [beq_eq_false_iff_ne]; omega
        go_wp2_with fail
        refine (awake13_any CU _).mono ?_
        rintro e w9 ⟨rfl, hb9⟩
        have HB9 := Lib.hid (HB1.out.trans (hb9.mono HB1.out.size))
        clear hb9
        go_wp2_with fail
        go_ret
        exact ⟨rfl, HB9.out⟩
      · have j5 : ¬ (500 : Int) < (l.length : Int) := by omega
        have j6 : ((l.length : Int) == 0) = false := by rw [beq_eq_false_iff_ne]; omega
        have NW := Lib.hid (BC.newOk (l.length : Nat) w1 (by omega) (by omega))
        rw [Int.toNat_natCast] at NW
        go_wp2_with fail
        refine NW.out.mono ?_
        rintro e w2 ⟨b, N, rfl, hx2, hn2, hb2⟩
        have HF2 := Lib.hid (show FillS BX w w2 b N gl (.slice (some ⟨gl, 0, none⟩) l.length cl) l (List.replicate l.length none) from
          ⟨hx2, FillB.start l, HO1.out.new hb2, rfl, fun c => by have := hn2 _ c; have := (HO1.out.lt (g := gl) rfl).2.1; omega, fun i hi => Nat.le_trans HB1.out.size (hn2 i hi), HB1.out.trans (hb2.mono HB1.out.size), by rw [hlf]; exact hTl⟩)
        have HLF := Lib.hid hlf
        clear hx2 hn2 hb2 NW HO1 HB1 x0 hlf
        go_wp2_with fail
        clear j6
        have hol0 := hol
        go_loopw [11] (fun v11 wr => ∃ (i : Nat) (M : Nat → Prop) (st : BoxS), i ≤ ol.length ∧ v11 = .int .i64 (i : Nat) ∧ FillS BX w wr b M gl (.slice (some ⟨gl, 0, none⟩) l.length cl) l st) (fun v11 _ => ol.length - (intOf v11).toNat)
        case atStart => exact ⟨0, N, _, Nat.zero_le _, rfl, HF2.out⟩
        case round =>
          obtain ⟨i, M, st, hi, rfl, hf⟩ := hrel
          have HF := Lib.hid hf
          clear hf HF2
          have i0 : (0 : Int) ≤ (i : Int) := by omega
          have hrd : (i < ol.length ∧ i < 300) ∨ (¬ i < ol.length) ∨ (i < ol.length ∧ ¬ i < 300) := by omega
          rcases hrd with ⟨hlt, h3⟩ | hend
          · have e1 : (i : Int) < (ol.length : Int) := by omega
            have e2 : (i : Int) < 300 := by omega
            obtain ⟨g5, o5, c5, hv, hn5, hel⟩ := (HR.out.keep HF.out.bl).at hlt
            injection hv with ea eb ec
            subst ea; subst ec
            clear eb
            have hox := HOK.out _ (List.getElem_mem hlt)
            generalize ol[i] = x at *
            have d0 := hel 0 _ rfl
            rw [Nat.add_zero, Nat.mul_one] at d0
            clear hel
            obtain ⟨xx1, xx2⟩ := hox
            by_cases hx0 : 0 ≤ x
            · by_cases hxl : x < (l.length : Int)
              · obtain ⟨y, hy⟩ : ∃ y : Nat, y = x.toNat := ⟨_, rfl⟩
                have hxy : x = (y : Int) := by omega
                subst hxy
                have hyl : y < (partsL l).length := by omega
                obtain ⟨f0, f1, f2⟩ := HF.out.at hyl
                have PO := Lib.hid (part_ok HF.out.fl (by omega) y hyl)
                obtain ⟨p1, p2, p3⟩ := put_fill HF.out.fill (by have := HF.out.fl; omega) y hyl
                have PT := Lib.hid (BC.put _ HF.out.bx PO.out)
                rw [p1] at PT
                have HPF := Lib.hid p2
                clear p1 p2 p3 PO hy
                generalize (partsL l)[y] = pt at *
                generalize putB' st pt = st' at *
                unfold partV at PT
                obtain ⟨pa, po, px⟩ := pt
                dsimp only at f0 f1 f2 PT
                go_wp2_with fail
                refine PT.out.mono ?_
                rintro e w5 ⟨M5, rfl, hx5, hn5', hk5⟩
                have HF5 := Lib.hid (HF.out.put hx5 HPF.out hn5' hk5)
                clear hx5 hn5' hk5 PT HF f0 f1 f2 d0
                go_wp2_with fail
                go_roundw
                case rel => exact ⟨i + 1, M5, st', hlt, by go_num, HF5.out⟩
                case measure => simp [intOf]; omega
              · go_wp2_with fail
                go_roundw
                case rel => exact ⟨i + 1, M, st, hlt, by go_num, HF.out⟩
                case measure => simp [intOf]; omega
            · go_wp2_with fail
              go_roundw
              case rel => exact ⟨i + 1, M, st, hlt, by go_num, HF.out⟩
              case measure => simp [intOf]; omega
          · rcases hend with h9 | ⟨h9, h8⟩
            · have e1 : ¬ (i : Int) < (ol.length : Int) := by omega
              have ML := Lib.hid (BC.missing (l.length : Nat) HF.out.bx ⟨by omega, by omega⟩)
              rw [missN_all (by rw [HF.out.fill.len]; exact Nat.le_refl _)] at ML
              have HML := Lib.hid (show ∀ j ∈ missB st, j < l.length from fun j hj => by rw [← HF.out.fill.len]; exact (missB_mem.1 hj).1)
              have HMI := Lib.hid (show ∀ j ∈ missB st, j ∈ (missB st).take (missB st).length from fun j hj => by rw [List.take_length]; exact hj)
              have HBL := Lib.hid (fun i hi => BC.lt HF.out.bx i hi)
              have hmlen : (missB st).length ≤ 500 := by
                rw [missB_len _ st rfl]
                have h1 : leftB st ≤ st.length := List.countP_le_length
                have := HF.out.fill.len
                omega
              obtain ⟨ml, hml⟩ : ∃ ml, ml = missB st := ⟨_, rfl⟩
              rw [← hml] at ML HML hmlen
              rw [← hml] at HMI
              have HMJ := Lib.hid (show ∀ j ∈ missB st, j ∈ ml.take ml.length by have := HMI.out; rw [hml] at this ⊢; exact this)
              clear hml HMI
              obtain ⟨B, hB⟩ : ∃ B, B = wr.heap.size := ⟨_, rfl⟩
              rw [← hB] at ML HBL
              go_wp2_with fail
              refine ML.out.mono ?_
              rintro e w6 ⟨v6, rfl, ho6, hb6⟩
              obtain ⟨C, hC⟩ : ∃ C, C = w6.heap.size := ⟨_, rfl⟩
              have HR6 := Lib.hid (own_between encI1_ok ho6)
              rw [← hC] at HR6
              have hBC : B ≤ C := by rw [hB, hC]; exact (hB ▸ hb6).size
              have HF6 := Lib.hid (HF.out.new BC (by rw [← hB]; exact hb6))
              obtain ⟨a6, c6, hv6, hc6⟩ := HR6.out.slice
              subst hv6
              rw [List.length_map] at hc6 HR6 ⊢
              have uu : wrap64 ((ml.length : Int) - 1) = (ml.length : Int) - 1 := IntWalk.wrap64_in _ (by omega)
              have HC6 := Lib.hid (show C ≤ w6.heap.size by omega)
              clear ML ho6 hb6 HF hB hC
              go_wp2_with fail
              go_loopw [13] (fun v13 wz => ∃ (k : Nat) (z : Int) (M' : Nat → Prop) (st' : BoxS), k ≤ ml.length ∧ z = (k : Int) - 1 ∧ v13 = .int .i64 z ∧ FillS BX w wz b M' gl (.slice (some ⟨gl, 0, none⟩) l.length cl) l st' ∧ Hid ((∀ j ∈ missB st', j ∈ ml.take k) ∧ (∀ i, M' i → i < B ∨ C ≤ i)) ∧ RowN encI1 1 (fun g => B ≤ g ∧ g < C) wz (.slice a6 ml.length c6) (ml.map (fun i : Nat => (i : Int))) ∧ C ≤ wz.heap.size) (fun v13 _ => (intOf v13 + 1).toNat)
              case atStart => exact ⟨ml.length, _, M, st, Nat.le_refl _, rfl, by first | rfl | rw [uu], HF6.out, Lib.hid ⟨HMJ.out, fun i hi => .inl (HBL.out i hi)⟩, HR6.out, HC6.out⟩
              case round =>
                obtain ⟨k, z, M', st', hk, hz', rfl, hf, HJ, hr, hcz⟩ := hrel
                have HZ := Lib.hid hf
                have HRZ := Lib.hid hr
                have HCZ := Lib.hid hcz
                clear hf hr hcz HF6 HR6 HC6 HMJ HBL uu
                cases k with
                | succ j =>
                  have hzj : z = (j : Int) := by omega
                  subst hzj
                  clear hz'
                  have z0 : (0 : Int) ≤ (j : Int) := by omega
                  have hjl : j < ml.length := by omega
                  have hjm : j < (ml.map (fun i : Nat => (i : Int))).length := by rw [List.length_map]; exact hjl
                  obtain ⟨g7, o7, c7, hv, hn7, hel⟩ := HRZ.out.at hjm
                  injection hv with ea eb ec
                  subst ea; subst ec
                  clear eb
                  have d0 := hel 0 _ rfl
                  rw [Nat.add_zero, Nat.mul_one, List.getElem_map] at d0
                  clear hel
                  have hyl := HML.out _ (List.getElem_mem hjl)
                  have HLS := Lib.hid (fun (X : List Nat) (h : ∀ q ∈ X, q ∈ missB st' ∧ q ≠ ml[j]) => miss_less hjl HJ.out.1 h)
                  generalize ml[j] = y at *
                  have hyl2 : y < (partsL l).length := by omega
                  obtain ⟨f0, f1, f2⟩ := HZ.out.at hyl2
                  have PO := Lib.hid (part_ok HZ.out.fl (by omega) y hyl2)
                  obtain ⟨p1, p2, p3⟩ := put_fill HZ.out.fill (by have := HZ.out.fl; omega) y hyl2
                  have PT := Lib.hid (BC.put _ HZ.out.bx PO.out)
                  rw [p1] at PT
                  have HPF := Lib.hid p2
                  have HMT := Lib.hid (HLS.out _ p3)
                  clear p1 p2 p3 PO HLS
                  generalize (partsL l)[y] = pt at *
                  generalize putB' st' pt = st2 at *
                  unfold partV at PT
                  obtain ⟨pa, po, px⟩ := pt
                  dsimp only at f0 f1 f2 PT
                  have y0 : (0 : Int) ≤ (y : Int) := by omega
                  have y1 : (y : Int) < (l.length : Int) := by omega
                  go_wp2_with fail
                  refine PT.out.mono ?_
                  rintro e w8 ⟨M8, rfl, hx8, hn8, hk8⟩
                  have HF8 := Lib.hid (HZ.out.put hx8 HPF.out hn8 hk8)
                  have HJ8 := Lib.hid (show (∀ q ∈ missB st2, q ∈ ml.take j) ∧ (∀ i, M8 i → i < B ∨ C ≤ i) from ⟨HMT.out, fun i hi => (hn8 i hi).elim (HJ.out.2 i) (fun h => .inr (Nat.le_trans HCZ.out h))⟩)
                  have HR8 := Lib.hid (HRZ.out.kept hk8 (fun g hg hm => by have := HJ.out.2 g hm; omega))
                  have HC8 := Lib.hid (Nat.le_trans HCZ.out hk8.size)
                  clear hx8 hn8 hk8 PT HZ HRZ HCZ HJ HMT f0 f1 f2 d0
                  have ud : wrap64 ((j : Int) - 1) = (j : Int) - 1 := IntWalk.wrap64_in _ (by omega)
                  go_wp2_with fail
                  go_roundw
                  case rel => exact ⟨j, _, M8, st2, by omega, rfl, by first | rfl | rw [ud] | go_num, HF8.out, HJ8, HR8.out, HC8.out⟩
                  case measure => simp [intOf]
                | zero =>
                  have hzj : z = -1 := by omega
                  subst hzj
                  clear hz'
                  obtain ⟨m1, m2, m3⟩ := miss_end HZ.out.fill HJ.out.1
                  rw [HLF.out] at m3
                  have TX := Lib.hid (BC.text HZ.out.bx)
                  have e1 : textE st' = 0 := by unfold textE; rw [if_neg (by omega)]
                  have e2 : textB st' = T := by unfold textB; rw [if_neg (by omega), m3]
                  rw [e1, e2] at TX
                  have e3 : missN st' 9 = [] := by unfold missN; rw [m2]; rfl
                  have HM1 := Lib.hid m1
                  have HM3 := Lib.hid e3
                  clear e1 e2 m1 m2 m3 e3
                  go_wp2_with fail
                  refine TX.out.mono ?_
                  rintro e w8 ⟨rfl, hb8⟩
                  have HF8 := Lib.hid (HZ.out.new BC hb8)
                  clear hb8 TX HZ
                  have LT := Lib.hid (BC.left HF8.out.bx)
                  rw [HM1.out] at LT
                  have q1 : (T == T) = true := by simp
                  go_wp2_with fail
                  refine LT.out.mono ?_
                  rintro e w9 ⟨rfl, hb9⟩
                  have HF9 := Lib.hid (HF8.out.new BC hb9)
                  clear hb9 LT HF8
                  have M9 := Lib.hid (BC.missing 9 HF9.out.bx ⟨by decide, by decide⟩)
                  rw [HM3.out] at M9
                  go_wp2_with fail
                  refine M9.out.mono ?_
                  rintro e wa ⟨va, rfl, hoa, hba⟩
                  have HFa := Lib.hid (HF9.out.new BC hba)
                  obtain ⟨aa, ca, hva, _⟩ := (OwnN.row encI1_ok hoa).slice
                  subst hva
                  clear hoa hba M9 HF9
                  go_wp2_with fail
                  refine (awake13_any CU _).mono ?_
                  rintro e wc ⟨rfl, hbc⟩
                  have HBc := Lib.hid (HFa.out.bl.trans (hbc.mono HFa.out.bl.size))
                  clear hbc
                  go_wp2_with fail
                  go_ret
                  exact ⟨rfl, HBc.out⟩
            · have e1 : (i : Int) < (ol.length : Int) := by omega
              have e2 : ¬ (i : Int) < 300 := by omega
              have ML := Lib.hid (BC.missing (l.length : Nat) HF.out.bx ⟨by omega, by omega⟩)
              rw [missN_all (by rw [HF.out.fill.len]; exact Nat.le_refl _)] at ML
              have HML := Lib.hid (show ∀ j ∈ missB st, j < l.length from fun j hj => by rw [← HF.out.fill.len]; exact (missB_mem.1 hj).1)
              have HMI := Lib.hid (show ∀ j ∈ missB st, j ∈ (missB st).take (missB st).length from fun j hj => by rw [List.take_length]; exact hj)
              have HBL := Lib.hid (fun i hi => BC.lt HF.out.bx i hi)
              have hmlen : (missB st).length ≤ 500 := by
                rw [missB_len _ st rfl]
                have h1 : leftB st ≤ st.length := List.countP_le_length
                have := HF.out.fill.len
                omega
              obtain ⟨ml, hml⟩ : ∃ ml, ml = missB st := ⟨_, rfl⟩
              rw [← hml] at ML HML hmlen
              rw [← hml] at HMI
              have HMJ := Lib.hid (show ∀ j ∈ missB st, j ∈ ml.take ml.length by have := HMI.out; rw [hml] at this ⊢; exact this)
              clear hml HMI
              obtain ⟨B, hB⟩ : ∃ B, B = wr.heap.size := ⟨_, rfl⟩
              rw [← hB] at ML HBL
              go_wp2_with fail
              refine ML.out.mono ?_
              rintro e w6 ⟨v6, rfl, ho6, hb6⟩
              obtain ⟨C, hC⟩ : ∃ C, C = w6.heap.size := ⟨_, rfl⟩
              have HR6 := Lib.hid (own_between encI1_ok ho6)
              rw [← hC] at HR6
              have hBC : B ≤ C := by rw [hB, hC]; exact (hB ▸ hb6).size
              have HF6 := Lib.hid (HF.out.new BC (by rw [← hB]; exact hb6))
              obtain ⟨a6, c6, hv6, hc6⟩ := HR6.out.slice
              subst hv6
              rw [List.length_map] at hc6 HR6 ⊢
              have uu : wrap64 ((ml.length : Int) - 1) = (ml.length : Int) - 1 := IntWalk.wrap64_in _ (by omega)
              have HC6 := Lib.hid (show C ≤ w6.heap.size by omega)
              clear ML ho6 hb6 HF hB hC
              go_wp2_with fail
              go_loopw [13] (fun v13 wz => ∃ (k : Nat) (z : Int) (M' : Nat → Prop) (st' : BoxS), k ≤ ml.length ∧ z = (k : Int) - 1 ∧ v13 = .int .i64 z ∧ FillS BX w wz b M' gl (.slice (some ⟨gl, 0, none⟩) l.length cl) l st' ∧ Hid ((∀ j ∈ missB st', j ∈ ml.take k) ∧ (∀ i, M' i → i < B ∨ C ≤ i)) ∧ RowN encI1 1 (fun g => B ≤ g ∧ g < C) wz (.slice a6 ml.length c6) (ml.map (fun i : Nat => (i : Int))) ∧ C ≤ wz.heap.size) (fun v13 _ => (intOf v13 + 1).toNat)
              case atStart => exact ⟨ml.length, _, M, st, Nat.le_refl _, rfl, by first | rfl | rw [uu], HF6.out, Lib.hid ⟨HMJ.out, fun i hi => .inl (HBL.out i hi)⟩, HR6.out, HC6.out⟩
              case round =>
                obtain ⟨k, z, M', st', hk, hz', rfl, hf, HJ, hr, hcz⟩ := hrel
                have HZ := Lib.hid hf
                have HRZ := Lib.hid hr
                have HCZ := Lib.hid hcz
                clear hf hr hcz HF6 HR6 HC6 HMJ HBL uu
                cases k with
                | succ j =>
                  have hzj : z = (j : Int) := by omega
                  subst hzj
                  clear hz'
                  have z0 : (0 : Int) ≤ (j : Int) := by omega
                  have hjl : j < ml.length := by omega
                  have hjm : j < (ml.map (fun i : Nat => (i : Int))).length := by rw [List.length_map]; exact hjl
                  obtain ⟨g7, o7, c7, hv, hn7, hel⟩ := HRZ.out.at hjm
                  injection hv with ea eb ec
                  subst ea; subst ec
                  clear eb
                  have d0 := hel 0 _ rfl
                  rw [Nat.add_zero, Nat.mul_one, List.getElem_map] at d0
                  clear hel
                  have hyl := HML.out _ (List.getElem_mem hjl)
                  have HLS := Lib.hid (fun (X : List Nat) (h : ∀ q ∈ X, q ∈ missB st' ∧ q ≠ ml[j]) => miss_less hjl HJ.out.1 h)
                  generalize ml[j] = y at *
                  have hyl2 : y < (partsL l).length := by omega
                  obtain ⟨f0, f1, f2⟩ := HZ.out.at hyl2
                  have PO := Lib.hid (part_ok HZ.out.fl (by omega) y hyl2)
                  obtain ⟨p1, p2, p3⟩ := put_fill HZ.out.fill (by have := HZ.out.fl; omega) y hyl2
                  have PT := Lib.hid (BC.put _ HZ.out.bx PO.out)
                  rw [p1] at PT
                  have HPF := Lib.hid p2
                  have HMT := Lib.hid (HLS.out _ p3)
                  clear p1 p2 p3 PO HLS
                  generalize (partsL l)[y] = pt at *
                  generalize putB' st' pt = st2 at *
                  unfold partV at PT
                  obtain ⟨pa, po, px⟩ := pt
                  dsimp only at f0 f1 f2 PT
                  have y0 : (0 : Int) ≤ (y : Int) := by omega
                  have y1 : (y : Int) < (l.length : Int) := by omega
                  go_wp2_with fail
                  refine PT.out.mono ?_
                  rintro e w8 ⟨M8, rfl, hx8, hn8, hk8⟩
                  have HF8 := Lib.hid (HZ.out.put hx8 HPF.out hn8 hk8)
                  have HJ8 := Lib.hid (show (∀ q ∈ missB st2, q ∈ ml.take j) ∧ (∀ i, M8 i → i < B ∨ C ≤ i) from ⟨HMT.out, fun i hi => (hn8 i hi).elim (HJ.out.2 i) (fun h => .inr (Nat.le_trans HCZ.out h))⟩)
                  have HR8 := Lib.hid (HRZ.out.kept hk8 (fun g hg hm => by have := HJ.out.2 g hm; omega))
                  have HC8 := Lib.hid (Nat.le_trans HCZ.out hk8.size)
                  clear hx8 hn8 hk8 PT HZ HRZ HCZ HJ HMT f0 f1 f2 d0
                  have ud : wrap64 ((j : Int) - 1) = (j : Int) - 1 := IntWalk.wrap64_in _ (by omega)
                  go_wp2_with fail
                  go_roundw
                  case rel => exact ⟨j, _, M8, st2, by omega, rfl, by first | rfl | rw [ud] | go_num, HF8.out, HJ8, HR8.out, HC8.out⟩
                  case measure => simp [intOf]
                | zero =>
                  have hzj : z = -1 := by omega
                  subst hzj
                  clear hz'
                  obtain ⟨m1, m2, m3⟩ := miss_end HZ.out.fill HJ.out.1
                  rw [HLF.out] at m3
                  have TX := Lib.hid (BC.text HZ.out.bx)
                  have e1 : textE st' = 0 := by unfold textE; rw [if_neg (by omega)]
                  have e2 : textB st' = T := by unfold textB; rw [if_neg (by omega), m3]
                  rw [e1, e2] at TX
                  have e3 : missN st' 9 = [] := by unfold missN; rw [m2]; rfl
                  have HM1 := Lib.hid m1
                  have HM3 := Lib.hid e3
                  clear e1 e2 m1 m2 m3 e3
                  go_wp2_with fail
                  refine TX.out.mono ?_
                  rintro e w8 ⟨rfl, hb8⟩
                  have HF8 := Lib.hid (HZ.out.new BC hb8)
                  clear hb8 TX HZ
                  have LT := Lib.hid (BC.left HF8.out.bx)
                  rw [HM1.out] at LT
                  have q1 : (T == T) = true := by simp
                  go_wp2_with fail
                  refine LT.out.mono ?_
                  rintro e w9 ⟨rfl, hb9⟩
                  have HF9 := Lib.hid (HF8.out.new BC hb9)
                  clear hb9 LT HF8
                  have M9 := Lib.hid (BC.missing 9 HF9.out.bx ⟨by decide, by decide⟩)
                  rw [HM3.out] at M9
                  go_wp2_with fail
                  refine M9.out.mono ?_
                  rintro e wa ⟨va, rfl, hoa, hba⟩
                  have HFa := Lib.hid (HF9.out.new BC hba)
                  obtain ⟨aa, ca, hva, _⟩ := (OwnN.row encI1_ok hoa).slice
                  subst hva
                  clear hoa hba M9 HF9
                  go_wp2_with fail
                  refine (awake13_any CU _).mono ?_
                  rintro e wc ⟨rfl, hbc⟩
                  have HBc := Lib.hid (HFa.out.bl.trans (hbc.mono HFa.out.bl.size))
                  clear hbc
                  go_wp2_with fail
                  go_ret
                  exact ⟨rfl, HBc.out⟩
  · have k3 := k2.symm
    subst k3
    have j1 : ¬ (20000 : Int) < (T.length : Int) := by omega
    rcases HC.out with ⟨he, hp⟩ | ⟨l, he, hp, hl0, hl1, hlf⟩
    · rw [hp] at C1
      obtain ⟨e0, hee⟩ : ∃ e0, e0 = cutE T size := ⟨_, rfl⟩
      rw [← hee] at he C1
      clear hee hp
      have q1 : (e0 != 0) = true := by simp [he]
      clear he
      go_wp2_with fail
      refine C1.out.mono ?_
      rintro e w1 ⟨v1, rfl, ho1, hb1⟩
      obtain ⟨a1, c1, hv1, _⟩ := (OwnN.row encPt_ok ho1).slice
      subst hv1
      have HB1 := Lib.hid hb1
      clear ho1 hb1 C1
      go_wp2_with fail
      go_ret
      exact ⟨rfl, HB1.out⟩
    · rw [he, hp] at C1
      clear he hp HC
      have hpl := partsL_len l
      go_wp2_with fail
      refine C1.out.mono ?_
      rintro e w1 ⟨v1, rfl, ho1, hb1⟩
      obtain ⟨gl, cl, hv1, _, _, _, hel, _⟩ := ho1.atB encPt_ok (by intro c; rw [c] at hpl; simp at hpl; omega)
      subst hv1
      rw [hpl] at ho1 ⊢
      have x0 : w1.cell? ⟨gl, 1, none⟩ = some (.int .i64 (l.length : Nat)) := by
        have := hel 0 (by omega) 1 _ rfl
        rw [partsL_get] at this
        exact this
      have HB1 := Lib.hid hb1
      have HO1 := Lib.hid ho1
      clear ho1 hb1 C1 hel
      by_cases h500 : 500 < l.length
      · have j5 : (500 : Int) < (l.length : Int) := by omega
        have j6 : ((l.length : Int) == 0) = false := by rw [beq_eq_false_iff_ne]; omega
        go_wp2_with fail
        refine (awake13_any CU _).mono ?_
        rintro e w9 ⟨rfl, hb9⟩
        have HB9 := Lib.hid (HB1.out.trans (hb9.mono HB1.out.size))
        clear hb9
        go_wp2_with fail
        go_ret
        exact ⟨rfl, HB9.out⟩
      · have j5 : ¬ (500 : Int) < (l.length : Int) := by omega
        have j6 : ((l.length : Int) == 0) = false := by rw [beq_eq_false_iff_ne]; omega
        have NW := Lib.hid (BC.newOk (l.length : Nat) w1 (by omega) (by omega))
        rw [Int.toNat_natCast] at NW
        go_wp2_with fail
        refine NW.out.mono ?_
        rintro e w2 ⟨b, N, rfl, hx2, hn2, hb2⟩
        have HF2 := Lib.hid (show FillS BX w w2 b N gl (.slice (some ⟨gl, 0, none⟩) l.length cl) l (List.replicate l.length none) from
          ⟨hx2, FillB.start l, HO1.out.new hb2, rfl, fun c => by have := hn2 _ c; have := (HO1.out.lt (g := gl) rfl).2.1; omega, fun i hi => Nat.le_trans HB1.out.size (hn2 i hi), HB1.out.trans (hb2.mono HB1.out.size), by rw [hlf]; exact hTl⟩)
        have HLF := Lib.hid hlf
        clear hx2 hn2 hb2 NW HO1 HB1 x0 hlf
        go_wp2_with fail
        clear j6
        have hol0 := hol
        go_loopw [11] (fun v11 wr => ∃ (i : Nat) (M : Nat → Prop) (st : BoxS), i ≤ ol.length ∧ v11 = .int .i64 (i : Nat) ∧ FillS BX w wr b M gl (.slice (some ⟨gl, 0, none⟩) l.length cl) l st) (fun v11 _ => ol.length - (intOf v11).toNat)
        case atStart => exact ⟨0, N, _, Nat.zero_le _, rfl, HF2.out⟩
        case round =>
          obtain ⟨i, M, st, hi, rfl, hf⟩ := hrel
          have HF := Lib.hid hf
          clear hf HF2
          have i0 : (0 : Int) ≤ (i : Int) := by omega
          have hrd : (i < ol.length ∧ i < 300) ∨ (¬ i < ol.length) ∨ (i < ol.length ∧ ¬ i < 300) := by omega
          rcases hrd with ⟨hlt, h3⟩ | hend
          · have e1 : (i : Int) < (ol.length : Int) := by omega
            have e2 : (i : Int) < 300 := by omega
            obtain ⟨g5, o5, c5, hv, hn5, hel⟩ := (HR.out.keep HF.out.bl).at hlt
            injection hv with ea eb ec
            subst ea; subst ec
            clear eb
            have hox := HOK.out _ (List.getElem_mem hlt)
            generalize ol[i] = x at *
            have d0 := hel 0 _ rfl
            rw [Nat.add_zero, Nat.mul_one] at d0
            clear hel
            obtain ⟨xx1, xx2⟩ := hox
            by_cases hx0 : 0 ≤ x
            · by_cases hxl : x < (l.length : Int)
              · obtain ⟨y, hy⟩ : ∃ y : Nat, y = x.toNat := ⟨_, rfl⟩
                have hxy : x = (y : Int) := by omega
                subst hxy
                have hyl : y < (partsL l).length := by omega
                obtain ⟨f0, f1, f2⟩ := HF.out.at hyl
                have PO := Lib.hid (part_ok HF.out.fl (by omega) y hyl)
                obtain ⟨p1, p2, p3⟩ := put_fill HF.out.fill (by have := HF.out.fl; omega) y hyl
                have PT := Lib.hid (BC.put _ HF.out.bx PO.out)
                rw [p1] at PT
                have HPF := Lib.hid p2
                clear p1 p2 p3 PO hy
                generalize (partsL l)[y] = pt at *
                generalize putB' st pt = st' at *
                unfold partV at PT
                obtain ⟨pa, po, px⟩ := pt
                dsimp only at f0 f1 f2 PT
                go_wp2_with fail
                refine PT.out.mono ?_
                rintro e w5 ⟨M5, rfl, hx5, hn5', hk5⟩
                have HF5 := Lib.hid (HF.out.put hx5 HPF.out hn5' hk5)
                clear hx5 hn5' hk5 PT HF f0 f1 f2 d0
                go_wp2_with fail
                go_roundw
                case rel => exact ⟨i + 1, M5, st', hlt, by go_num, HF5.out⟩
                case measure => simp [intOf]; omega
              · go_wp2_with fail
                go_roundw
                case rel => exact ⟨i + 1, M, st, hlt, by go_num, HF.out⟩
                case measure => simp [intOf]; omega
            · go_wp2_with fail
              go_roundw
              case rel => exact ⟨i + 1, M, st, hlt, by go_num, HF.out⟩
              case measure => simp [intOf]; omega
          · rcases hend with h9 | ⟨h9, h8⟩
            · have e1 : ¬ (i : Int) < (ol.length : Int) := by omega
              have ML := Lib.hid (BC.missing (l.length : Nat) HF.out.bx ⟨by omega, by omega⟩)
              rw [missN_all (by rw [HF.out.fill.len]; exact Nat.le_refl _)] at ML
              have HML := Lib.hid (show ∀ j ∈ missB st, j < l.length from fun j hj => by rw [← HF.out.fill.len]; exact (missB_mem.1 hj).1)
              have HMI := Lib.hid (show ∀ j ∈ missB st, j ∈ (missB st).take (missB st).length from fun j hj => by rw [List.take_length]; exact hj)
              have HBL := Lib.hid (fun i hi => BC.lt HF.out.bx i hi)
              have hmlen : (missB st).length ≤ 500 := by
                rw [missB_len _ st rfl]
                have h1 : leftB st ≤ st.length := List.countP_le_length
                have := HF.out.fill.len
                omega
              obtain ⟨ml, hml⟩ : ∃ ml, ml = missB st := ⟨_, rfl⟩
              rw [← hml] at ML HML hmlen
              rw [← hml] at HMI
              have HMJ := Lib.hid (show ∀ j ∈ missB st, j ∈ ml.take ml.length by have := HMI.out; rw [hml] at this ⊢; exact this)
              clear hml HMI
              obtain ⟨B, hB⟩ : ∃ B, B = wr.heap.size := ⟨_, rfl⟩
              rw [← hB] at ML HBL
              go_wp2_with fail
              refine ML.out.mono ?_
              rintro e w6 ⟨v6, rfl, ho6, hb6⟩
              obtain ⟨C, hC⟩ : ∃ C, C = w6.heap.size := ⟨_, rfl⟩
              have HR6 := Lib.hid (own_between encI1_ok ho6)
              rw [← hC] at HR6
              have hBC : B ≤ C := by rw [hB, hC]; exact (hB ▸ hb6).size
              have HF6 := Lib.hid (HF.out.new BC (by rw [← hB]; exact hb6))
              obtain ⟨a6, c6, hv6, hc6⟩ := HR6.out.slice
              subst hv6
              rw [List.length_map] at hc6 HR6 ⊢
              have uu : wrap64 ((ml.length : Int) - 1) = (ml.length : Int) - 1 := IntWalk.wrap64_in _ (by omega)
              have HC6 := Lib.hid (show C ≤ w6.heap.size by omega)
              clear ML ho6 hb6 HF hB hC
              go_wp2_with fail
              go_loopw [13] (fun v13 wz => ∃ (k : Nat) (z : Int) (M' : Nat → Prop) (st' : BoxS), k ≤ ml.length ∧ z = (k : Int) - 1 ∧ v13 = .int .i64 z ∧ FillS BX w wz b M' gl (.slice (some ⟨gl, 0, none⟩) l.length cl) l st' ∧ Hid ((∀ j ∈ missB st', j ∈ ml.take k) ∧ (∀ i, M' i → i < B ∨ C ≤ i)) ∧ RowN encI1 1 (fun g => B ≤ g ∧ g < C) wz (.slice a6 ml.length c6) (ml.map (fun i : Nat => (i : Int))) ∧ C ≤ wz.heap.size) (fun v13 _ => (intOf v13 + 1).toNat)
              case atStart => exact ⟨ml.length, _, M, st, Nat.le_refl _, rfl, by first | rfl | rw [uu], HF6.out, Lib.hid ⟨HMJ.out, fun i hi => .inl (HBL.out i hi)⟩, HR6.out, HC6.out⟩
              case round =>
                obtain ⟨k, z, M', st', hk, hz', rfl, hf, HJ, hr, hcz⟩ := hrel
                have HZ := Lib.hid hf
                have HRZ := Lib.hid hr
                have HCZ := Lib.hid hcz
                clear hf hr hcz HF6 HR6 HC6 HMJ HBL uu
                cases k with
                | succ j =>
                  have hzj : z = (j : Int) := by omega
                  subst hzj
                  clear hz'
                  have z0 : (0 : Int) ≤ (j : Int) := by omega
                  have hjl : j < ml.length := by omega
                  have hjm : j < (ml.map (fun i : Nat => (i : Int))).length := by rw [List.length_map]; exact hjl
                  obtain ⟨g7, o7, c7, hv, hn7, hel⟩ := HRZ.out.at hjm
                  injection hv with ea eb ec
                  subst ea; subst ec
                  clear eb
                  have d0 := hel 0 _ rfl
                  rw [Nat.add_zero, Nat.mul_one, List.getElem_map] at d0
                  clear hel
                  have hyl := HML.out _ (List.getElem_mem hjl)
                  have HLS := Lib.hid (fun (X : List Nat) (h : ∀ q ∈ X, q ∈ missB st' ∧ q ≠ ml[j]) => miss_less hjl HJ.out.1 h)
                  generalize ml[j] = y at *
                  have hyl2 : y < (partsL l).length := by omega
                  obtain ⟨f0, f1, f2⟩ := HZ.out.at hyl2
                  have PO := Lib.hid (part_ok HZ.out.fl (by omega) y hyl2)
                  obtain ⟨p1, p2, p3⟩ := put_fill HZ.out.fill (by have := HZ.out.fl; omega) y hyl2
                  have PT := Lib.hid (BC.put _ HZ.out.bx PO.out)
                  rw [p1] at PT
                  have HPF := Lib.hid p2
                  have HMT := Lib.hid (HLS.out _ p3)
                  clear p1 p2 p3 PO HLS
                  generalize (partsL l)[y] = pt at *
                  generalize putB' st' pt = st2 at *
                  unfold partV at PT
                  obtain ⟨pa, po, px⟩ := pt
                  dsimp only at f0 f1 f2 PT
                  have y0 : (0 : Int) ≤ (y : Int) := by omega
                  have y1 : (y : Int) < (l.length : Int) := by omega
                  go_wp2_with fail
                  refine PT.out.mono ?_
                  rintro e w8 ⟨M8, rfl, hx8, hn8, hk8⟩
                  have HF8 := Lib.hid (HZ.out.put hx8 HPF.out hn8 hk8)
                  have HJ8 := Lib.hid (show (∀ q ∈ missB st2, q ∈ ml.take j) ∧ (∀ i, M8 i → i < B ∨ C ≤ i) from ⟨HMT.out, fun i hi => (hn8 i hi).elim (HJ.out.2 i) (fun h => .inr (Nat.le_trans HCZ.out h))⟩)
                  have HR8 := Lib.hid (HRZ.out.kept hk8 (fun g hg hm => by have := HJ.out.2 g hm; omega))
                  have HC8 := Lib.hid (Nat.le_trans HCZ.out hk8.size)
                  clear hx8 hn8 hk8 PT HZ HRZ HCZ HJ HMT f0 f1 f2 d0
                  have ud : wrap64 ((j : Int) - 1) = (j : Int) - 1 := IntWalk.wrap64_in _ (by omega)
                  go_wp2_with fail
                  go_roundw
                  case rel => exact ⟨j, _, M8, st2, by omega, rfl, by first | rfl | rw [ud] | go_num, HF8.out, HJ8, HR8.out, HC8.out⟩
                  case measure => simp [intOf]
                | zero =>
                  have hzj : z = -1 := by omega
                  subst hzj
                  clear hz'
                  obtain ⟨m1, m2, m3⟩ := miss_end HZ.out.fill HJ.out.1
                  rw [HLF.out] at m3
                  have TX := Lib.hid (BC.text HZ.out.bx)
                  have e1 : textE st' = 0 := by unfold textE; rw [if_neg (by omega)]
                  have e2 : textB st' = T := by unfold textB; rw [if_neg (by omega), m3]
                  rw [e1, e2] at TX
                  have e3 : missN st' 9 = [] := by unfold missN; rw [m2]; rfl
                  have HM1 := Lib.hid m1
                  have HM3 := Lib.hid e3
                  clear e1 e2 m1 m2 m3 e3
                  go_wp2_with fail
                  refine TX.out.mono ?_
                  rintro e w8 ⟨rfl, hb8⟩
                  have HF8 := Lib.hid (HZ.out.new BC hb8)
                  clear hb8 TX HZ
                  have LT := Lib.hid (BC.left HF8.out.bx)
                  rw [HM1.out] at LT
                  have q1 : (T == T) = true := by simp
                  go_wp2_with fail
                  refine LT.out.mono ?_
                  rintro e w9 ⟨rfl, hb9⟩
                  have HF9 := Lib.hid (HF8.out.new BC hb9)
                  clear hb9 LT HF8
                  have M9 := Lib.hid (BC.missing 9 HF9.out.bx ⟨by decide, by decide⟩)
                  rw [HM3.out] at M9
                  go_wp2_with fail
                  refine M9.out.mono ?_
                  rintro e wa ⟨va, rfl, hoa, hba⟩
                  have HFa := Lib.hid (HF9.out.new BC hba)
                  obtain ⟨aa, ca, hva, _⟩ := (OwnN.row encI1_ok hoa).slice
                  subst hva
                  clear hoa hba M9 HF9
                  go_wp2_with fail
                  refine (awake13_any CU _).mono ?_
                  rintro e wc ⟨rfl, hbc⟩
                  have HBc := Lib.hid (HFa.out.bl.trans (hbc.mono HFa.out.bl.size))
                  clear hbc
                  go_wp2_with fail
                  go_ret
                  exact ⟨rfl, HBc.out⟩
            · have e1 : (i : Int) < (ol.length : Int) := by omega
              have e2 : ¬ (i : Int) < 300 := by omega
              have ML := Lib.hid (BC.missing (l.length : Nat) HF.out.bx ⟨by omega, by omega⟩)
              rw [missN_all (by rw [HF.out.fill.len]; exact Nat.le_refl _)] at ML
              have HML := Lib.hid (show ∀ j ∈ missB st, j < l.length from fun j hj => by rw [← HF.out.fill.len]; exact (missB_mem.1 hj).1)
              have HMI := Lib.hid (show ∀ j ∈ missB st, j ∈ (missB st).take (missB st).length from fun j hj => by rw [List.take_length]; exact hj)
              have HBL := Lib.hid (fun i hi => BC.lt HF.out.bx i hi)
              have hmlen : (missB st).length ≤ 500 := by
                rw [missB_len _ st rfl]
                have h1 : leftB st ≤ st.length := List.countP_le_length
                have := HF.out.fill.len
                omega
              obtain ⟨ml, hml⟩ : ∃ ml, ml = missB st := ⟨_, rfl⟩
              rw [← hml] at ML HML hmlen
              rw [← hml] at HMI
              have HMJ := Lib.hid (show ∀ j ∈ missB st, j ∈ ml.take ml.length by have := HMI.out; rw [hml] at this ⊢; exact this)
              clear hml HMI
              obtain ⟨B, hB⟩ : ∃ B, B = wr.heap.size := ⟨_, rfl⟩
              rw [← hB] at ML HBL
              go_wp2_with fail
              refine ML.out.mono ?_
              rintro e w6 ⟨v6, rfl, ho6, hb6⟩
              obtain ⟨C, hC⟩ : ∃ C, C = w6.heap.size := ⟨_, rfl⟩
              have HR6 := Lib.hid (own_between encI1_ok ho6)
              rw [← hC] at HR6
              have hBC : B ≤ C := by rw [hB, hC]; exact (hB ▸ hb6).size
              have HF6 := Lib.hid (HF.out.new BC (by rw [← hB]; exact hb6))
              obtain ⟨a6, c6, hv6, hc6⟩ := HR6.out.slice
              subst hv6
              rw [List.length_map] at hc6 HR6 ⊢
              have uu : wrap64 ((ml.length : Int) - 1) = (ml.length : Int) - 1 := IntWalk.wrap64_in _ (by omega)
              have HC6 := Lib.hid (show C ≤ w6.heap.size by omega)
              clear ML ho6 hb6 HF hB hC
              go_wp2_with fail
              go_loopw [13] (fun v13 wz => ∃ (k : Nat) (z : Int) (M' : Nat → Prop) (st' : BoxS), k ≤ ml.length ∧ z = (k : Int) - 1 ∧ v13 = .int .i64 z ∧ FillS BX w wz b M' gl (.slice (some ⟨gl, 0, none⟩) l.length cl) l st' ∧ Hid ((∀ j ∈ missB st', j ∈ ml.take k) ∧ (∀ i, M' i → i < B ∨ C ≤ i)) ∧ RowN encI1 1 (fun g => B ≤ g ∧ g < C) wz (.slice a6 ml.length c6) (ml.map (fun i : Nat => (i : Int))) ∧ C ≤ wz.heap.size) (fun v13 _ => (intOf v13 + 1).toNat)
              case atStart => exact ⟨ml.length, _, M, st, Nat.le_refl _, rfl, by first | rfl | rw [uu], HF6.out, Lib.hid ⟨HMJ.out, fun i hi => .inl (HBL.out i hi)⟩, HR6.out, HC6.out⟩
              case round =>
                obtain ⟨k, z, M', st', hk, hz', rfl, hf, HJ, hr, hcz⟩ := hrel
                have HZ := Lib.hid hf
                have HRZ := Lib.hid hr
                have HCZ := Lib.hid hcz
                clear hf hr hcz HF6 HR6 HC6 HMJ HBL uu
                cases k with
                | succ j =>
                  have hzj : z = (j : Int) := by omega
                  subst hzj
                  clear hz'
                  have z0 : (0 : Int) ≤ (j : Int) := by omega
                  have hjl : j < ml.length := by omega
                  have hjm : j < (ml.map (fun i : Nat => (i : Int))).length := by rw [List.length_map]; exact hjl
                  obtain ⟨g7, o7, c7, hv, hn7, hel⟩ := HRZ.out.at hjm
                  injection hv with ea eb ec
                  subst ea; subst ec
                  clear eb
                  have d0 := hel 0 _ rfl
                  rw [Nat.add_zero, Nat.mul_one, List.getElem_map] at d0
                  clear hel
                  have hyl := HML.out _ (List.getElem_mem hjl)
                  have HLS := Lib.hid (fun (X : List Nat) (h : ∀ q ∈ X, q ∈ missB st' ∧ q ≠ ml[j]) => miss_less hjl HJ.out.1 h)
                  generalize ml[j] = y at *
                  have hyl2 : y < (partsL l).length := by omega
                  obtain ⟨f0, f1, f2⟩ := HZ.out.at hyl2
                  have PO := Lib.hid (part_ok HZ.out.fl (by omega) y hyl2)
                  obtain ⟨p1, p2, p3⟩ := put_fill HZ.out.fill (by have := HZ.out.fl; omega) y hyl2
                  have PT := Lib.hid (BC.put _ HZ.out.bx PO.out)
                  rw [p1] at PT
                  have HPF := Lib.hid p2
                  have HMT := Lib.hid (HLS.out _ p3)
                  clear p1 p2 p3 PO HLS
                  generalize (partsL l)[y] = pt at *
                  generalize putB' st' pt = st2 at *
                  unfold partV at PT
                  obtain ⟨pa, po, px⟩ := pt
                  dsimp only at f0 f1 f2 PT
                  have y0 : (0 : Int) ≤ (y : Int) := by omega
                  have y1 : (y : Int) < (l.length : Int) := by omega
                  go_wp2_with fail
                  refine PT.out.mono ?_
                  rintro e w8 ⟨M8, rfl, hx8, hn8, hk8⟩
                  have HF8 := Lib.hid (HZ.out.put hx8 HPF.out hn8 hk8)
                  have HJ8 := Lib.hid (show (∀ q ∈ missB st2, q ∈ ml.take j) ∧ (∀ i, M8 i → i < B ∨ C ≤ i) from ⟨HMT.out, fun i hi => (hn8 i hi).elim (HJ.out.2 i) (fun h => .inr (Nat.le_trans HCZ.out h))⟩)
                  have HR8 := Lib.hid (HRZ.out.kept hk8 (fun g hg hm => by have := HJ.out.2 g hm; omega))
                  have HC8 := Lib.hid (Nat.le_trans HCZ.out hk8.size)
                  clear hx8 hn8 hk8 PT HZ HRZ HCZ HJ HMT f0 f1 f2 d0
                  have ud : wrap64 ((j : Int) - 1) = (j : Int) - 1 := IntWalk.wrap64_in _ (by omega)
                  go_wp2_with fail
                  go_roundw
                  case rel => exact ⟨j, _, M8, st2, by omega, rfl, by first | rfl | rw [ud] | go_num, HF8.out, HJ8, HR8.out, HC8.out⟩
                  case measure => simp [intOf]
                | zero =>
                  have hzj : z = -1 := by omega
                  subst hzj
                  clear hz'
                  obtain ⟨m1, m2, m3⟩ := miss_end HZ.out.fill HJ.out.1
                  rw [HLF.out] at m3
                  have TX := Lib.hid (BC.text HZ.out.bx)
                  have e1 : textE st' = 0 := by unfold textE; rw [if_neg (by omega)]
                  have e2 : textB st' = T := by unfold textB; rw [if_neg (by omega), m3]
                  rw [e1, e2] at TX
                  have e3 : missN st' 9 = [] := by unfold missN; rw [m2]; rfl
                  have HM1 := Lib.hid m1
                  have HM3 := Lib.hid e3
                  clear e1 e2 m1 m2 m3 e3
                  go_wp2_with fail
                  refine TX.out.mono ?_
                  rintro e w8 ⟨rfl, hb8⟩
                  have HF8 := Lib.hid (HZ.out.new BC hb8)
                  clear hb8 TX HZ
                  have LT := Lib.hid (BC.left HF8.out.bx)
                  rw [HM1.out] at LT
                  have q1 : (T == T) = true := by simp
                  go_wp2_with fail
                  refine LT.out.mono ?_
                  rintro e w9 ⟨rfl, hb9⟩
                  have HF9 := Lib.hid (HF8.out.new BC hb9)
                  clear hb9 LT HF8
                  have M9 := Lib.hid (BC.missing 9 HF9.out.bx ⟨by decide, by decide⟩)
                  rw [HM3.out] at M9
                  go_wp2_with fail
                  refine M9.out.mono ?_
                  rintro e wa ⟨va, rfl, hoa, hba⟩
                  have HFa := Lib.hid (HF9.out.new BC hba)
                  obtain ⟨aa, ca, hva, _⟩ := (OwnN.row encI1_ok hoa).slice
                  subst hva
                  clear hoa hba M9 HF9
                  go_wp2_with fail
                  refine (awake13_any CU _).mono ?_
                  rintro e wc ⟨rfl, hbc⟩
                  have HBc := Lib.hid (HFa.out.bl.trans (hbc.mono HFa.out.bl.size))
                  clear hbc
                  go_wp2_with fail
                  go_ret
                  exact ⟨rfl, HBc.out⟩
end Go.Proofs.Ytiknfohadnjkiaa
