/- The walk of the law ChainSames. (Written by gen/sames.py.) -/
import Derived.Test.YtpkgjokehgihjaaAgX
import Derived.Test.YtpkgjokehgihjaaMkX
import Derived.Test.YtpkgjokehgihjaaBldShelf
import Derived.Test.YtpkgjokehgihjaaBookW
import Derived.Test.YtpkgjokehgihjaaR7X
import Derived.Test.YtpkgjokehgihjaaRcX
import Derived.Test.YtpkgjokehgihjaaTyX
import Derived.Test.YtpkgjokehgihjaaCmpW
import Derived.Test.YtpkgjokehgihjaaSrX
import Derived.Test.YtpkgjokehgihjaaDelX
import Derived.Test.YtpkgjokehgihjaaFrame
import Derived.Test.YtpkgjokehgihjaaGen
import Derived.Test.YtpkgjokehgihjaaRollX
import Derived.Test.YtpkgjokehgihjaaPtX
import Derived.Test.YtpkgjokehgihjaaMarkMath
import Derived.Test.YtpkgjokehgihjaaTabX
import Derived.Test.YtpkgjokehgihjaaNewTabW
import Derived.Test.YtpkgjokehgihjaaOdX
import Derived.Test.YtpkgjokehgihjaaOwnL
import Derived.Test.YtpkgjokehgihjaaProg
import Derived.Test.YtpkgjokehgihjaaCdX
import Derived.Test.YtpkgjokehgihjaaRfX
import Derived.Test.YtpkgjokehgihjaaRightDW
import Derived.Test.YtpkgjokehgihjaaRollMath
import Derived.Test.YtpkgjokehgihjaaRowKeep
import Derived.Test.YtpkgjokehgihjaaRows
import Derived.Test.YtpkgjokehgihjaaSeX
import Derived.Test.YtpkgjokehgihjaaSameW
import Derived.Test.YtpkgjokehgihjaaShelf
import Derived.Test.YtpkgjokehgihjaaSigAt
import Derived.Test.YtpkgjokehgihjaaSigOfW
import Derived.Test.YtpkgjokehgihjaaSignMath
import Derived.Test.YtpkgjokehgihjaaSmall7W
import Derived.Test.YtpkgjokehgihjaaSortX
import Derived.Test.YtpkgjokehgihjaaSortEW
import Derived.Test.YtpkgjokehgihjaaSortFW
import Derived.Test.YtpkgjokehgihjaaWkX
import Derived.BigQuiet
import Derived.BigRegion
import Derived.Deep.CutBlock
import Derived.Deep.DeepCutAuto
import Derived.Deep.LoopGhost
import Derived.Deep.QuietTactic
import Derived.Deep.RegionHeld3
import Derived.Deep.RegionLaw
import Derived.IntWalk
import Derived.Laws.BitsAllLaws
import Derived.Laws.Externs
import Derived.Laws.MakeOwn
import Derived.Laws.Rows
import Derived.Laws.Tables
import Derived.Lib.AppendStr
import Derived.Lib.Builder
import Derived.Lib.Hide
import Derived.Lib.Strings
import Derived.Lib.Walk
import Derived.Outline
import Derived.StillTailTactics
import Derived.WalkKit
import Derived.WalkLawsBesides
import Derived.WalkSpells
set_option linter.unusedVariables false
namespace Go.Proofs.Ytpkgjokehgihjaa
open Go.RowKit

/-! ### Plain mathematics -/
theorem same_right (m : Txt) (n : Int) : rightD m m n (sameL n) = true ↔ m.length = 32 ∧ 0 ≤ n ∧ n ≤ 524288 := by
  unfold rightD sameL
  by_cases h : 0 < n
  · rw [if_pos h]
    simp [stS, mkS]
    omega
  · rw [if_neg h]
    simp
    omega
theorem copy_same (n : Nat) : copyS n = sameL (n : Int) := by
  unfold copyS sameL
  by_cases h : n = 0
  · rw [if_pos h, if_neg (by omega)]
  · rw [if_neg h, if_pos (by omega)]
theorem bytes_same (n : Nat) : bytesA (sameL (n : Int)) = placesC 0 n := by
  unfold sameL
  by_cases h : n = 0
  · subst h; rw [if_neg (by omega)]; rfl
  · rw [if_pos (by omega), bytes_one]
    unfold bytesO
    rw [if_neg (by simp)]
    simp
theorem same_mk (S : List Txt) {s bm : Txt} (hb : bm = numM (noS S s)) (hs : s.length ≤ 1000) : DMk S s s ⟨bm, bm, s.length, sameL (s.length : Int)⟩ := by
  have h := stepsI_back (B := 16) (by omega) s s (by omega)
  rw [stepsI_same (by omega), copy_same] at h
  exact ⟨hb, hb, rfl, h.good, h.out, by omega, by omega⟩
theorem cmp_left {S : List Txt} {s t bm : Txt} {d : DD} (h : DMk S s t d) (hb : bm = d.bm) : cmpD ⟨bm, bm, s.length, sameL (s.length : Int)⟩ d = tidR d := by
  unfold cmpD tidR
  dsimp only
  rw [bytes_same, comp_id_left _ h.inr, hb]
theorem cmp_right {S : List Txt} {s t mm : Txt} {d : DD} (h : DMk S s t d) (hm : mm = d.mm) : cmpD d ⟨mm, mm, t.length, sameL (t.length : Int)⟩ = tidR d := by
  unfold cmpD tidR
  dsimp only
  rw [bytes_same, ← h.blen, comp_id_right, h.blen, hm, h.n]
theorem same_call (m : Txt) (n : Nat) (w : World) (hm : m.length = 32) (hn : n ≤ 524288) :
    Calls Try.prog 35 #[.string ⟨m.toArray⟩, .int .i64 (n : Int)] w fun e w' => ∃ v', e = .returned (.tuple #[delW m m (n : Int) v', .int .i64 0]) ∧ OwnS w' w.heap.size v' (sameL (n : Int)) ∧ Below w.heap.size w w' := by
  have := same_any m (n : Int) w (by omega) (by omega) (by omega)
  have e : sameR m (n : Int) = (⟨m, m, n, sameL (n : Int)⟩, 0) := by
    unfold sameR
    rw [if_pos ((same_right m n).2 ⟨hm, by omega, by omega⟩)]
  rw [e] at this
  exact this
theorem comp_call {S : List Txt} {l s t : Txt} {a b c : DD} (ha : DMk S l s a) (hb : DMk S s t b) (hc : cmpD a b = c) {N M : Nat → Prop} {va vb : Value} {w : World} (h1 : RowS N w va a.l) (h2 : RowS M w vb b.l) :
    Calls Try.prog 27 #[a.v va, b.v vb] w fun e w' => ∃ v', e = .returned (.tuple #[c.v v', .int .i64 0]) ∧ OwnS w' w.heap.size v' c.l ∧ Below w.heap.size w w' := by
  have := compose_any N M a b va vb w h1 h2 ha.ok hb.ok
  rw [ha.comp hb, hc] at this
  exact this
/-- What Of tells by a book that is new since w. -/
theorem of_call (pb bm : Nat) (z : Int) (s t : Txt) (w : World) (hs : s.length ≤ 1000) (ht : t.length ≤ 1000) (hp : w.heap.size ≤ pb) (hm : w.heap.size ≤ bm) :
    ∃ er : Int, (er = 0 ∨ er = 1) ∧ ∀ w', IdealAt w' pb bm [] → Below w.heap.size w w' → Calls Try.prog 36 #[.pointer (some ⟨pb, 0, none⟩), .string ⟨s.toArray⟩, .string ⟨t.toArray⟩, .int .i64 z] w' fun e w'' => ∃ (d : DD) (v' : Value), e = .returned (.tuple #[d.v v', .int .i64 er]) ∧ Hid (er = 0 → ∃ S, DMk S s t d) ∧ OwnS w'' w.heap.size v' d.l ∧ Below w.heap.size w w'' ∧ Kept (fun k => k = pb ∨ k = bm) w' w'' := by
  by_cases hz : z < 16 ∨ 1024 < z
  · refine ⟨1, .inr rfl, fun w' hI hB => (ofD_arg _ s t z w' hz (by omega)).mono ?_⟩
    rintro e w'' ⟨rfl, hb⟩
    exact ⟨⟨[], [], 0, []⟩, .slice none 0 0, rfl, Lib.hid (fun h => absurd h (by decide)), OwnS.nil _ _, hB.trans (hb.mono hB.size), Kept.new hb _⟩
  · obtain ⟨B, rfl⟩ : ∃ B : Nat, z = (B : Int) := ⟨z.toNat, by omega⟩
    refine ⟨0, .inl rfl, fun w' hI hB => (ofJ_ok pb bm B [] s t w' (by omega) (by omega) (by omega) (by omega) hI (by simp; omega)).mono ?_⟩
    rintro e w'' ⟨v, S, rfl, ho, hat, hk, _⟩
    exact ⟨dOf S B s t, v, rfl, Lib.hid (fun _ => ⟨S, dOf_mk S (by omega) hs ht⟩), ho.mono hB.size, hB.trans (hk.below hB.size (fun k e => by rcases e with rfl | rfl <;> assumption)), hk⟩
theorem last_put {w : World} {p : Nat} {ty : TypeId} {x0 x1 x2 x3 : Value} (h : w.heap[p]? = some (.cells #[x0, x1, x2, x3] ty (0, 0))) (y3 : Value) :
    (w.cell? ⟨p, 3, none⟩ = some x3 ∧ w.frozen? ⟨p, 3, none⟩ = false) ∧
    (w.setCell ⟨p, 3, none⟩ y3).heap[p]? = some (.cells #[x0, x1, x2, y3] ty (0, 0)) ∧
    Kept (fun k => k = p) w (w.setCell ⟨p, 3, none⟩ y3) := by
  refine ⟨⟨?_, frozen_of_row w p 3 _ _ h⟩, heap_setCell_same w p 3 _ _ y3 h, (Kept.refl _ _).setCell (by rfl) _⟩
  rw [cell_of_row _ _ _ _ _ _ h]; rfl
theorem few_two (s t : Txt) : fewS [s, t] = [s.take 1000, t.take 1000] := rfl
set_option maxRecDepth 100000 in
set_option maxHeartbeats 1000000 in
theorem chainSames_walk (s0 : Txt) (hs0 : s0.length ≤ 140737488351232) (t0 : Txt) (ht0 : t0.length ≤ 140737488351232) (z : Int) (hz1 : -9223372036854775808 ≤ z) (hz2 : z ≤ 9223372036854775807) (mk : Txt) (hmk : mk.length ≤ 140737488351232) (n : Int) (hn1 : -9223372036854775808 ≤ n) (hn2 : n ≤ 9223372036854775807) (w : World) :
    Calls Try.prog 10 #[.string ⟨s0.toArray⟩, .string ⟨t0.toArray⟩, .int .i64 z, .string ⟨mk.toArray⟩, .int .i64 n] w fun e w' => e = .returned (.bool true) ∧ Below w.heap.size w w' := by
  have hb0 := below_self_alloc w (.cells #[.string ⟨s0.toArray⟩, .string ⟨t0.toArray⟩] 9 (0, 0))
  have hg0 := heap_alloc_new w (.cells #[.string ⟨s0.toArray⟩, .string ⟨t0.toArray⟩] 9 (0, 0))
  have FW := Lib.hid (few7_any (fun _ => True) (.slice (some ⟨w.heap.size, 0, none⟩) 2 2) [s0, t0] (w.alloc (.cells #[.string ⟨s0.toArray⟩, .string ⟨t0.toArray⟩] 9 (0, 0))) ⟨_, _, rfl, fun i hi => ⟨w.heap.size, 0, rfl, trivial, by
    match i, hi with
    | 0, _ => rw [cell_of_row _ _ _ _ _ _ hg0]; rfl
    | 1, _ => rw [cell_of_row _ _ _ _ _ _ hg0]; rfl⟩⟩)
  rw [few_two] at FW
  have hs1 : (s0.take 1000).length ≤ 1000 := List.length_take_le _ _
  have ht1 : (t0.take 1000).length ≤ 1000 := List.length_take_le _ _
  generalize s0.take 1000 = s at *
  generalize t0.take 1000 = t at *
  have HB0 := Lib.hid hb0
  clear hb0 hg0 hs0 ht0
  go_enter Try.func10, Try.ntmps10
  go_wp2_with fail
  refine FW.out.mono ?_
  rintro e w1 ⟨v1, rfl, ho, hb1⟩
  have HB1 := Lib.hid (HB0.out.trans (hb1.mono HB0.out.size))
  obtain ⟨ga, ca, rfl, HC⟩ : ∃ ga ca, v1 = .slice (some ⟨ga, 0, none⟩) 2 ca ∧ Hid (∀ w', Below w1.heap.size w1 w' → w'.cell? ⟨ga, 0, none⟩ = some (.string ⟨s.toArray⟩) ∧ w'.cell? ⟨ga, 1, none⟩ = some (.string ⟨t.toArray⟩)) := by
    rcases ho.2 with ⟨_, hn⟩ | ⟨g, cap, cur, rfl, _, hg, _⟩
    · simp at hn
    · have C := World.ownsRow.cells ho (g := g) rfl
      have C0 := C 0 (.string ⟨s.toArray⟩) (by simp)
      have C1 := C 1 (.string ⟨t.toArray⟩) (by simp)
      rw [addr_add0] at C0 C1
      exact ⟨g, cap, rfl, Lib.hid (fun w' hb => ⟨(hb.cell (World.block_lt_of_cell? _ _ C0)).trans C0, (hb.cell (World.block_lt_of_cell? _ _ C1)).trans C1⟩)⟩
  clear ho hb1 FW HB0
  have SM := Lib.hid (same_any mk n w1 hmk hn1 hn2)
  have HSR := Lib.hid (show sameR mk n = if rightD mk mk n (sameL n) = true then (⟨mk, mk, n, sameL n⟩, 0) else (ddZ, 1) from rfl)
  have HSI := Lib.hid (same_right mk n)
  have HST := Lib.hid (sameL_st hn1 hn2)
  have HSL := Lib.hid (sameL_len n)
  generalize sameL n = sl at *
  generalize sameR mk n = sr at *
  obtain ⟨⟨rb, rm, rn, rl⟩, re⟩ := sr
  dsimp only [DD.v] at *
  go_wp2_with fail
  refine SM.out.mono ?_
  rintro e w2 ⟨v2, rfl, ho2, hb2⟩
  obtain ⟨x2, y2, z2, rfl⟩ := own_slice ho2
  have bx2 := below_self_alloc w2 (delO rb rm rn (.slice x2 y2 z2))
  have HO3 := Lib.hid (ho2.new bx2)
  have HX3 := Lib.hid (heap_alloc_new w2 (delO rb rm rn (.slice x2 y2 z2)))
  have h13 := Lib.hid (hb2.trans (bx2.mono hb2.size))
  clear ho2 hb2 bx2 SM
  go_upto_region 3 with fail
  generalize w2.alloc (.cells #[.string ⟨rb.toArray⟩, .string ⟨rm.toArray⟩, .int .i64 rn, .slice x2 y2 z2] 24) = w3 at *
  obtain ⟨e0, e1, e2, e3⟩ := delO_cells HX3.out
  have MLN := Lib.hid (show (⟨mk.toArray⟩ : ByteArray).size = mk.length from rfl)
  go_cut [57] (fun s57 wx => s57 = .bool false ∧ Below w3.heap.size w3 wx)
  case first =>
    by_cases hr : rightD mk mk n sl = true
    · have e4 := HSR.out.symm
      rw [if_pos hr] at e4
      injection e4 with e4 e5
      injection e4 with e41 e42 e43 e44
      subst e41 e42 e43 e44 e5
      obtain ⟨k1, k2, k3⟩ := HSI.out.1 hr
      have j1 : (mk.length : Int) = 32 := by omega
      have j1b : ((mk.length : Int) == 32) = true := by simp [j1]
      have RT := Lib.hid (rightD_any _ mk mk n (.slice x2 y2 z2) sl w3 HO3.out.row HST.out (by have := HSL.out; omega) hmk hmk hn1 hn2)
      rw [hr] at RT
      clear HSR HSI HST HSL HO3 HX3 hr k1
      go_wp2_with fail
      refine RT.out.mono ?_
      rintro e w4 ⟨rfl, hb4⟩
      go_wp2_with fail
      go_meet
      exact ⟨rfl, hb4⟩
    · have e4 := HSR.out.symm
      rw [if_neg hr] at e4
      injection e4 with e4 e5
      injection e4 with e41 e42 e43 e44
      subst e41 e42 e43 e44 e5
      have hno : ¬ (mk.length = 32 ∧ 0 ≤ n ∧ n ≤ 524288) := fun h => hr (HSI.out.2 h)
      clear HSR HSI HST HSL HO3 HX3 hr
      by_cases k1 : (mk.length : Int) = 32
      · have k1b : ((mk.length : Int) == 32) = true := by simp [k1]
        by_cases k2 : 0 ≤ n
        · have k3 : ¬ n ≤ 524288 := fun h => hno ⟨by omega, k2, h⟩
          clear hno
          go_wp2_with fail
          go_meet
          exact ⟨rfl, Below.refl _ _⟩
        · clear hno
          go_wp2_with fail
          go_meet
          exact ⟨rfl, Below.refl _ _⟩
      · have k1b : ((mk.length : Int) == 32) = false := by simp [k1]
        clear hno
        go_wp2_with fail
        go_meet
        exact ⟨rfl, Below.refl _ _⟩
  case rest =>
    obtain ⟨rfl, hb4⟩ := hcut
    generalize wc = w4 at *
    have h14 := Lib.hid (h13.out.trans (hb4.mono h13.out.size))
    clear hb4 h13 HSR HSI HST HSL HO3 HX3 e0 e1 e2 e3
    go_wp2_with fail
    refine (ideal_any _).mono ?_
    rintro e w5 ⟨pb, bm, rfl, hid5, hp, hbm, hb5⟩
    have HI5 := Lib.hid hid5
    have h45 := Lib.hid hb5
    have h15 := Lib.hid (h14.out.trans (hb5.mono h14.out.size))
    have HPB := Lib.hid (show w4.heap.size ≤ pb ∧ w4.heap.size ≤ bm from ⟨hp, hbm⟩)
    clear hid5 hp hbm hb5
    have BD : Hid (Below w4.heap.size w4 w5.drew) := Lib.hid (h45.out.trans (Below_drew (Below.refl _ _)))
    have BA : Hid (Below w4.heap.size w4 (w5.alloc (delO [] [] 0 (.slice none 0 0))).drew) := Lib.hid (h45.out.trans (Below_drew ((below_self_alloc w5 (delO [] [] 0 (.slice none 0 0))).mono h45.out.size)))
    have XA : Hid ((w5.alloc (delO [] [] 0 (.slice none 0 0))).drew.heap[w5.heap.size]? = some (delO [] [] 0 (.slice none 0 0))) := Lib.hid (heap_alloc_new w5 _)
    have ID : Hid (IdealAt w5.drew pb bm []) := Lib.hid (HI5.out.new (Below_drew (Below.refl _ _)))
    have IA : Hid (IdealAt (w5.alloc (delO [] [] 0 (.slice none 0 0))).drew pb bm []) := Lib.hid (HI5.out.new (Below_drew (below_self_alloc w5 _)))
    have HPX := Lib.hid (show w5.heap.size ≠ pb ∧ w5.heap.size ≠ bm from ⟨by have := HI5.out.lt; omega, by have := HI5.out.lt; omega⟩)
    have FC6 := Lib.hid (fun w' (hb : Below w4.heap.size w4 w') => HC.out w' (h14.out.trans (hb.mono h14.out.size)))
    obtain ⟨er, her, hOF⟩ := of_call pb bm z s t w4 hs1 ht1 HPB.out.1 HPB.out.2
    have CP6 := Lib.hid hOF
    have HER := Lib.hid her
    have h45s := Lib.hid h45.out.size
    clear hOF her
    go_upto_region 6 with fail
    obtain ⟨c0, c1⟩ := FC6.out _ BD.out
    obtain ⟨c0a, c1a⟩ := FC6.out _ BA.out
    go_cut [15, 16] (fun s15 s16 wx => ∃ p u d, s15 = .pointer (some ⟨p, 0, none⟩) ∧ s16 = .int .i64 er ∧ CBox wx w4 p d u ∧ w4.heap.size ≤ p ∧ Hid (er = 0 → ∃ S, DMk S s t d))
    case first =>
      go_region_held3 (fun w' => w'.cell? ⟨ga, 0, none⟩ = some (.string ⟨s.toArray⟩) ∧ w'.cell? ⟨ga, 1, none⟩ = some (.string ⟨t.toArray⟩))
        (first | with_reducible exact ⟨by assumption, by assumption⟩ | go_keep)
        (first | (go_at_call 36; go_split_ands; first
          | (refine (CP6.out _ ID.out BD.out).mono ?_; rintro e w6 ⟨d, v', rfl, hd, ho, hb, hk⟩; obtain ⟨vca, vcm, vcc, rfl⟩ := own_slice ho; obtain ⟨bq, mq, nq, lq⟩ := d; have H6 := Lib.hid hb; have HDD := Lib.hid hd.out; have O6 := Lib.hid ho; have b6 := below_self_alloc w6 (delO [] [] 0 (.slice none 0 0)); have x6 := Lib.hid (heap_alloc_new w6 (delO [] [] 0 (.slice none 0 0))); have FB2 := Lib.hid (cbox_new (c := ⟨bq, mq, nq, lq⟩) O6.out H6.out); have H6a := Lib.hid (H6.out.trans (b6.mono H6.out.size)); have FB := Lib.hid (cbox_put (c := ⟨bq, mq, nq, lq⟩) x6.out H6.out.size (O6.out.new b6) H6a.out); obtain ⟨c0b, c1b⟩ := FC6.out w6 H6.out; obtain ⟨c0d, c1d⟩ := FC6.out _ H6a.out; clear b6 ho hb hk hd; obtain ⟨⟨S0, S0f⟩, ⟨S1, S1f⟩, ⟨S2, S2f⟩, ⟨S3, S3f⟩, _, _⟩ := four_store x6.out (.string ⟨bq.toArray⟩) (.string ⟨mq.toArray⟩) (.int .i64 nq) (.slice vca vcm vcc); obtain ⟨c0f, c1f⟩ := FC6.out _ FB.out.bel; clear x6)
          | (refine (CP6.out _ IA.out BA.out).mono ?_; rintro e w6 ⟨d, v', rfl, hd, ho, hb, hk⟩; obtain ⟨vca, vcm, vcc, rfl⟩ := own_slice ho; obtain ⟨bq, mq, nq, lq⟩ := d; have H6 := Lib.hid hb; have HDD := Lib.hid hd.out; have x6 := Lib.hid (hk.old XA.out (fun e => by have := HPX.out; omega)); have FB := Lib.hid (cbox_put (c := ⟨bq, mq, nq, lq⟩) x6.out h45s.out ho H6.out); obtain ⟨c0b, c1b⟩ := FC6.out w6 H6.out; clear ho hb hk hd; obtain ⟨⟨S0, S0f⟩, ⟨S1, S1f⟩, ⟨S2, S2f⟩, ⟨S3, S3f⟩, _, _⟩ := four_store x6.out (.string ⟨bq.toArray⟩) (.string ⟨mq.toArray⟩) (.int .i64 nq) (.slice vca vcm vcc); obtain ⟨c0f, c1f⟩ := FC6.out _ FB.out.bel; clear x6)))
      all_goals
        clear c0 c1 c0a c1a c0b c1b c0f c1f S0 S0f S1 S1f S2 S2f S3 S3f
        first
          | (refine with_cbox FB2 ?_; clear FB2)
          | refine with_cbox FB ?_
        clear FB
        intro wf FB
        go_wp2_with fail
        go_meet
        exact ⟨_, _, _, rfl, rfl, FB.out, by first | exact h45s.out | exact H6.out.size, HDD⟩
    case rest =>
      obtain ⟨p6, u6, dq, rfl, rfl, hbx6, hpq, hdd⟩ := hcut
      generalize wc = w6 at *
      obtain ⟨x6, y6, z6, rfl⟩ := own_slice hbx6.ho
      have HX6 := Lib.hid hbx6
      have HPQ := Lib.hid hpq
      clear hpq
      have HB6 := Lib.hid (HB1.out.trans ((h14.out.trans (hbx6.bel.mono h14.out.size)).mono HB1.out.size))
      clear hbx6 CP6 BD BA XA ID IA HPX HI5
      rcases HER.out with her | her
      case inr =>
        subst her
        have q0 : ((1 : Int) != 0) = true := rfl
        clear hdd
        go_wp2_with fail
        refine (awake7_any _).mono ?_
        rintro e w7 ⟨rfl, b7⟩
        have HB7 := Lib.hid (HB6.out.trans (b7.mono HB6.out.size))
        go_wp2_with fail
        go_ret
        exact ⟨rfl, HB7.out⟩
      case inl =>
        obtain ⟨S, hdm⟩ := hdd.out her
        subst her
        have q0 : ((0 : Int) != 0) = false := rfl
        have HDM := Lib.hid hdm
        have MY := Lib.hid (same_mk S hdm.bm hs1)
        have MZ := Lib.hid (same_mk S hdm.mm ht1)
        have EL := Lib.hid (cmp_left hdm rfl)
        have ER := Lib.hid (cmp_right hdm rfl)
        have MT := Lib.hid hdm.tid
        have HBL := Lib.hid hdm.bl
        have HML := Lib.hid hdm.ml
        clear hdm hdd
        have CY := Lib.hid (fun w' => same_call dq.bm s.length w' HBL.out (by omega))
        have CZ := Lib.hid (fun w' => same_call dq.mm t.length w' HML.out (by omega))
        have CU := Lib.hid (fun w' va vb (h1 : RowS (fun _ => True) w' va (sameL (s.length : Int))) (h2 : RowS (fun _ => True) w' vb dq.l) => comp_call MY.out HDM.out EL.out h1 h2)
        have CV := Lib.hid (fun w' va vb (h1 : RowS (fun _ => True) w' va dq.l) (h2 : RowS (fun _ => True) w' vb (sameL (t.length : Int))) => comp_call HDM.out MZ.out ER.out h1 h2)
        have HTQ := Lib.hid (show tidR dq = ⟨dq.bm, dq.mm, dq.n, stepsB (bytesA dq.l)⟩ from rfl)
        have HIN := Lib.hid (show (∀ x ∈ dq.l, stS x = true) ∧ dq.l.length ≤ 1000000 ∧ lenB dq.l ≤ 1000000 ∧ InR (bytesA dq.l) 524288 ∧ (bytesA dq.l).length ≤ 1000000 from by
          have h1 := HDM.out.blen
          have h2 := HDM.out.ll
          refine ⟨fun x hx => (HDM.out.good x hx).1, HDM.out.ok.len, by unfold lenB; omega, HDM.out.inr.mono h2, by omega⟩)
        have HLT := Lib.hid (show (stepsB (bytesA dq.l)).length ≤ 1000000 from MT.out.ok.len)
        rw [HTQ.out] at CU CV
        clear HTQ MY MZ EL ER MT
        obtain ⟨bq, mq, nq, lq⟩ := dq
        dsimp only [DD.v] at *
        obtain ⟨ys, hys⟩ : ∃ ys, ys = sameL (s.length : Int) := ⟨_, rfl⟩
        obtain ⟨zs, hzs⟩ : ∃ zs, zs = sameL (t.length : Int) := ⟨_, rfl⟩
        obtain ⟨tq, htq⟩ : ∃ tq, tq = stepsB (bytesA lq) := ⟨_, rfl⟩
        rw [← hys] at CY CU
        rw [← hzs] at CZ CV
        rw [← htq] at CU CV HLT
        have HTQ := Lib.hid htq
        clear hys hzs htq HDM HBL HML
        have h16 := Lib.hid (h14.out.trans (HX6.out.bel.mono h14.out.size))
        have F6 := Lib.hid (fun w' (hb : Below w6.heap.size w6 w') => delO_cells (old_of hb HX6.out.h6))
        have FG := Lib.hid (fun w' (hb : Below w6.heap.size w6 w') => HC.out w' (h16.out.trans (hb.mono h16.out.size)))
        have FC9 := Lib.hid (fun w' (hb : Below w6.heap.size w6 w') => show w'.cell? ⟨p6, 0, none⟩ = some (.string ⟨bq.toArray⟩) ∧ w'.cell? ⟨ga, 0, none⟩ = some (.string ⟨s.toArray⟩) from ⟨(F6.out w' hb).1, (FG.out w' hb).1⟩)
        have CP9 := Lib.hid (fun w' (hb : Below w6.heap.size w6 w') => CY.out w')
        have BD : Hid (Below w6.heap.size w6 w6.drew) := Lib.hid (Below_drew (Below.refl _ _))
        have BA : Hid (Below w6.heap.size w6 (w6.alloc (delO [] [] 0 (.slice none 0 0))).drew) := Lib.hid (Below_drew (below_self_alloc w6 _))
        have XA : Hid ((w6.alloc (delO [] [] 0 (.slice none 0 0))).drew.heap[w6.heap.size]? = some (delO [] [] 0 (.slice none 0 0))) := Lib.hid (heap_alloc_new w6 _)
        go_upto_region 9 with fail
        obtain ⟨c0, c1⟩ := FC9.out _ BD.out
        obtain ⟨c0a, c1a⟩ := FC9.out _ BA.out
        go_cut [17, 18] (fun s6 s7 wx => ∃ p u, s6 = .pointer (some ⟨p, 0, none⟩) ∧ s7 = .int .i64 0 ∧ CBox wx w6 p ⟨bq, bq, (s.length : Int), ys⟩ u)
        case first =>
          go_region_held3 (fun w' => w'.cell? ⟨p6, 0, none⟩ = some (.string ⟨bq.toArray⟩) ∧ w'.cell? ⟨ga, 0, none⟩ = some (.string ⟨s.toArray⟩))
            (first | with_reducible exact ⟨by assumption, by assumption⟩ | go_keep)
            (first | (go_at_call 35; go_split_ands; first
              | (refine (CP9.out _ BD.out).mono ?_; rintro e w6 ⟨v', rfl, ho, hb⟩; obtain ⟨vca, vcm, vcc, rfl⟩ := own_slice ho; have H6 := Lib.hid (BD.out.trans (hb.mono BD.out.size)); have O6 := Lib.hid (ho.mono BD.out.size); have b6 := below_self_alloc w6 (delO [] [] 0 (.slice none 0 0)); have x6 := Lib.hid (heap_alloc_new w6 (delO [] [] 0 (.slice none 0 0))); have FB2 := Lib.hid (cbox_new (c := ⟨bq, bq, (s.length : Int), ys⟩) O6.out H6.out); have H6a := Lib.hid (H6.out.trans (b6.mono H6.out.size)); have FB := Lib.hid (cbox_put (c := ⟨bq, bq, (s.length : Int), ys⟩) x6.out H6.out.size (O6.out.new b6) H6a.out); obtain ⟨c0b, c1b⟩ := FC9.out w6 H6.out; obtain ⟨c0d, c1d⟩ := FC9.out _ H6a.out; clear b6 ho hb; obtain ⟨⟨S0, S0f⟩, ⟨S1, S1f⟩, ⟨S2, S2f⟩, ⟨S3, S3f⟩, _, _⟩ := four_store x6.out (.string ⟨bq.toArray⟩) (.string ⟨bq.toArray⟩) (.int .i64 (s.length : Int)) (.slice vca vcm vcc); obtain ⟨c0f, c1f⟩ := FC9.out _ FB.out.bel; clear x6)
              | (refine (CP9.out _ BA.out).mono ?_; rintro e w6 ⟨v', rfl, ho, hb⟩; obtain ⟨vca, vcm, vcc, rfl⟩ := own_slice ho; have H6 := Lib.hid (BA.out.trans (hb.mono BA.out.size)); have x6 := Lib.hid (old_of hb XA.out); have FB := Lib.hid (cbox_put (c := ⟨bq, bq, (s.length : Int), ys⟩) x6.out (Nat.le_refl _) (ho.mono BA.out.size) H6.out); obtain ⟨c0b, c1b⟩ := FC9.out w6 H6.out; clear ho hb; obtain ⟨⟨S0, S0f⟩, ⟨S1, S1f⟩, ⟨S2, S2f⟩, ⟨S3, S3f⟩, _, _⟩ := four_store x6.out (.string ⟨bq.toArray⟩) (.string ⟨bq.toArray⟩) (.int .i64 (s.length : Int)) (.slice vca vcm vcc); obtain ⟨c0f, c1f⟩ := FC9.out _ FB.out.bel; clear x6)))
          all_goals
            clear c0 c0a c0b c0f c1 c1a c1b c1f S0 S0f S1 S1f S2 S2f S3 S3f
            first
              | (refine with_cbox FB2 ?_; clear FB2)
              | refine with_cbox FB ?_
            clear FB
            intro wf FB
            go_wp2_with fail
            go_meet
            exact ⟨_, _, rfl, rfl, FB.out⟩
        case rest =>
          obtain ⟨p9, u9, rfl, rfl, hbx9⟩ := hcut
          generalize wc = w9 at *
          obtain ⟨x9, y9, z9, rfl⟩ := own_slice hbx9.ho
          have HX9 := Lib.hid hbx9
          have h69 := Lib.hid hbx9.bel
          clear hbx9 FC9 CP9 BD BA XA
          have FC10 := Lib.hid (fun w' (hb : Below w9.heap.size w9 w') => show w'.cell? ⟨p6, 1, none⟩ = some (.string ⟨mq.toArray⟩) ∧ w'.cell? ⟨ga, 1, none⟩ = some (.string ⟨t.toArray⟩) from ⟨(F6.out w' (h69.out.trans (hb.mono h69.out.size))).2.1, (FG.out w' (h69.out.trans (hb.mono h69.out.size))).2⟩)
          have CP10 := Lib.hid (fun w' (hb : Below w9.heap.size w9 w') => CZ.out w')
          have BD : Hid (Below w9.heap.size w9 w9.drew) := Lib.hid (Below_drew (Below.refl _ _))
          have BA : Hid (Below w9.heap.size w9 (w9.alloc (delO [] [] 0 (.slice none 0 0))).drew) := Lib.hid (Below_drew (below_self_alloc w9 _))
          have XA : Hid ((w9.alloc (delO [] [] 0 (.slice none 0 0))).drew.heap[w9.heap.size]? = some (delO [] [] 0 (.slice none 0 0))) := Lib.hid (heap_alloc_new w9 _)
          go_upto_region 10 with fail
          obtain ⟨c0, c1⟩ := FC10.out _ BD.out
          obtain ⟨c0a, c1a⟩ := FC10.out _ BA.out
          go_cut [19, 20] (fun s6 s7 wx => ∃ p u, s6 = .pointer (some ⟨p, 0, none⟩) ∧ s7 = .int .i64 0 ∧ CBox wx w9 p ⟨mq, mq, (t.length : Int), zs⟩ u)
          case first =>
            go_region_held3 (fun w' => w'.cell? ⟨p6, 1, none⟩ = some (.string ⟨mq.toArray⟩) ∧ w'.cell? ⟨ga, 1, none⟩ = some (.string ⟨t.toArray⟩))
              (first | with_reducible exact ⟨by assumption, by assumption⟩ | go_keep)
              (first | (go_at_call 35; go_split_ands; first
                | (refine (CP10.out _ BD.out).mono ?_; rintro e w6 ⟨v', rfl, ho, hb⟩; obtain ⟨vca, vcm, vcc, rfl⟩ := own_slice ho; have H6 := Lib.hid (BD.out.trans (hb.mono BD.out.size)); have O6 := Lib.hid (ho.mono BD.out.size); have b6 := below_self_alloc w6 (delO [] [] 0 (.slice none 0 0)); have x6 := Lib.hid (heap_alloc_new w6 (delO [] [] 0 (.slice none 0 0))); have FB2 := Lib.hid (cbox_new (c := ⟨mq, mq, (t.length : Int), zs⟩) O6.out H6.out); have H6a := Lib.hid (H6.out.trans (b6.mono H6.out.size)); have FB := Lib.hid (cbox_put (c := ⟨mq, mq, (t.length : Int), zs⟩) x6.out H6.out.size (O6.out.new b6) H6a.out); obtain ⟨c0b, c1b⟩ := FC10.out w6 H6.out; obtain ⟨c0d, c1d⟩ := FC10.out _ H6a.out; clear b6 ho hb; obtain ⟨⟨S0, S0f⟩, ⟨S1, S1f⟩, ⟨S2, S2f⟩, ⟨S3, S3f⟩, _, _⟩ := four_store x6.out (.string ⟨mq.toArray⟩) (.string ⟨mq.toArray⟩) (.int .i64 (t.length : Int)) (.slice vca vcm vcc); obtain ⟨c0f, c1f⟩ := FC10.out _ FB.out.bel; clear x6)
                | (refine (CP10.out _ BA.out).mono ?_; rintro e w6 ⟨v', rfl, ho, hb⟩; obtain ⟨vca, vcm, vcc, rfl⟩ := own_slice ho; have H6 := Lib.hid (BA.out.trans (hb.mono BA.out.size)); have x6 := Lib.hid (old_of hb XA.out); have FB := Lib.hid (cbox_put (c := ⟨mq, mq, (t.length : Int), zs⟩) x6.out (Nat.le_refl _) (ho.mono BA.out.size) H6.out); obtain ⟨c0b, c1b⟩ := FC10.out w6 H6.out; clear ho hb; obtain ⟨⟨S0, S0f⟩, ⟨S1, S1f⟩, ⟨S2, S2f⟩, ⟨S3, S3f⟩, _, _⟩ := four_store x6.out (.string ⟨mq.toArray⟩) (.string ⟨mq.toArray⟩) (.int .i64 (t.length : Int)) (.slice vca vcm vcc); obtain ⟨c0f, c1f⟩ := FC10.out _ FB.out.bel; clear x6)))
            all_goals
              clear c0 c0a c0b c0f c1 c1a c1b c1f S0 S0f S1 S1f S2 S2f S3 S3f
              first
                | (refine with_cbox FB2 ?_; clear FB2)
                | refine with_cbox FB ?_
              clear FB
              intro wf FB
              go_wp2_with fail
              go_meet
              exact ⟨_, _, rfl, rfl, FB.out⟩
          case rest =>
            obtain ⟨p10, u10, rfl, rfl, hbx10⟩ := hcut
            generalize wc = w10 at *
            obtain ⟨x10, y10, z10, rfl⟩ := own_slice hbx10.ho
            have HX10 := Lib.hid hbx10
            have h910 := Lib.hid hbx10.bel
            have h610 := Lib.hid (h69.out.trans (h910.out.mono h69.out.size))
            clear hbx10 FC10 CP10 BD BA XA
            have HO9 := Lib.hid (HX9.out.ho.new h910.out)
            have HO6 := Lib.hid (HX6.out.ho.new h610.out)
            have CUc := Lib.hid (CU.out w10 _ _ (HO9.out.row.mono (fun _ _ => trivial)) (HO6.out.row.mono (fun _ _ => trivial)))
            obtain ⟨e0, e1, e2, e3⟩ := delO_cells (old_of h910.out HX9.out.h6)
            obtain ⟨f0, f1, f2, f3⟩ := F6.out w10 h610.out
            clear CU CY CZ HX9 HO9 FG
            go_wp2_with fail
            refine CUc.out.mono ?_
            rintro e w11 ⟨v11, rfl, ho11, hb11⟩
            obtain ⟨x11, y11, z11, rfl⟩ := own_slice ho11
            have bx11 := below_self_alloc w11 (delO bq mq nq (.slice x11 y11 z11))
            have HX11 := Lib.hid (heap_alloc_new w11 (delO bq mq nq (.slice x11 y11 z11)))
            have HO11 := Lib.hid (ho11.new bx11)
            have h1012 := Lib.hid (hb11.trans (bx11.mono hb11.size))
            have h612 := Lib.hid (h610.out.trans (h1012.out.mono h610.out.size))
            have L11 := Lib.hid (show p6 < w11.heap.size from Nat.lt_of_lt_of_le (Array.getElem?_eq_some_iff.1 (old_of h610.out HX6.out.h6)).1 hb11.size)
            have HO6b := Lib.hid (HX6.out.ho.new h612.out)
            have HO10 := Lib.hid (HX10.out.ho.new h1012.out)
            have CVc := Lib.hid (CV.out (w11.alloc (delO bq mq nq (.slice x11 y11 z11))) _ _ (HO6b.out.row.mono (fun _ _ => trivial)) (HO10.out.row.mono (fun _ _ => trivial)))
            have e0' := e0
            clear e0 e1 e2 e3 f0 f1 f2 f3 e0' ho11 hb11 bx11 CUc CV HO6
            obtain ⟨e0, e1, e2, e3⟩ := delO_cells (old_of h1012.out HX10.out.h6)
            obtain ⟨f0, f1, f2, f3⟩ := F6.out _ h612.out
            go_wp2_with fail
            generalize hp11 : w11.heap.size = p11 at *
            generalize w11.alloc (.cells #[.string ⟨bq.toArray⟩, .string ⟨mq.toArray⟩, .int .i64 nq, .slice x11 y11 z11] 24) = w12 at *
            clear hp11
            refine CVc.out.mono ?_
            rintro e w13 ⟨v13, rfl, ho13, hb13⟩
            obtain ⟨x13, y13, z13, rfl⟩ := own_slice ho13
            have bx13 := below_self_alloc w13 (delO bq mq nq (.slice x13 y13 z13))
            have HX13 := Lib.hid (heap_alloc_new w13 (delO bq mq nq (.slice x13 y13 z13)))
            have HO13 := Lib.hid (ho13.new bx13)
            have h1214 := Lib.hid (hb13.trans (bx13.mono hb13.size))
            have h614 := Lib.hid (h612.out.trans (h1214.out.mono h612.out.size))
            have L13 := Lib.hid (show p6 < w13.heap.size from Nat.lt_of_lt_of_le (Array.getElem?_eq_some_iff.1 (old_of h612.out HX6.out.h6)).1 hb13.size)
            have HX11b := Lib.hid (old_of h1214.out HX11.out)
            have HO11b := Lib.hid (HO11.out.new h1214.out)
            have HO6c := Lib.hid (HX6.out.ho.new h614.out)
            have RB := Lib.hid (refBytesA_any _ (.slice x6 y6 z6) lq (w13.alloc (delO bq mq nq (.slice x13 y13 z13))) HO6c.out.row HIN.out.1 HIN.out.2.1 HIN.out.2.2.1)
            clear e0 e1 e2 e3 f0 f1 f2 f3 ho13 hb13 bx13 CVc HO6b HO10 HX10 HX11 HO11
            obtain ⟨f0, f1, f2, f3⟩ := F6.out _ h614.out
            go_wp2_with fail
            generalize hp13 : w13.heap.size = p13 at *
            generalize w13.alloc (.cells #[.string ⟨bq.toArray⟩, .string ⟨mq.toArray⟩, .int .i64 nq, .slice x13 y13 z13] 24) = w14 at *
            clear hp13
            refine RB.out.mono ?_
            rintro e w15 ⟨v15, rfl, ho15, hb15⟩
            obtain ⟨x15, z15, rfl⟩ := ho15.slice
            have RS := Lib.hid (refSteps7_any _ _ (bytesA lq) w15 ho15 HIN.out.2.2.2.1 HIN.out.2.2.2.2)
            rw [← HTQ.out] at RS
            have H15 := Lib.hid hb15
            clear ho15 hb15 RB f0 f1 f2 f3 HIN
            go_wp2_with fail
            refine RS.out.mono ?_
            rintro e w16 ⟨v16, rfl, ho16, hb16⟩
            obtain ⟨x16, y16, z16, rfl⟩ := own_slice ho16
            have h1416 := Lib.hid (H15.out.trans (hb16.mono H15.out.size))
            have h616 := Lib.hid (h614.out.trans (h1416.out.mono h614.out.size))
            have HP6 := Lib.hid (old_of h616.out HX6.out.h6)
            obtain ⟨⟨S3, S3f⟩, s4', s5'⟩ := last_put HP6.out (.slice x16 y16 z16)
            have HP6b := Lib.hid s4'
            have HX11c := Lib.hid (s5'.old (old_of h1416.out HX11b.out) (by have := L11.out; omega))
            have HX13c := Lib.hid (s5'.old (old_of h1416.out HX13.out) (by have := L13.out; omega))
            have HO16 := Lib.hid (ho16.kept s5' (fun g hg e => own_ne ho16 HP6.out (by decide) (e ▸ hg)))
            have HO11c := Lib.hid ((HO11b.out.new h1416.out).kept s5' (fun g hg e => own_ne (HO11b.out.new h1416.out) HP6.out (by decide) (e ▸ hg)))
            have HO13c := Lib.hid ((HO13.out.new h1416.out).kept s5' (fun g hg e => own_ne (HO13.out.new h1416.out) HP6.out (by decide) (e ▸ hg)))
            have LW := Lib.hid (show w.heap.size ≤ p6 from Nat.le_trans HB1.out.size (Nat.le_trans h14.out.size HPQ.out))
            have HB17 := Lib.hid ((HB6.out.trans (h616.out.mono HB6.out.size)).trans (s5'.below (Nat.le_trans HB6.out.size h616.out.size) (fun k e => by have := LW.out; omega)))
            clear s4' s5' ho16 hb16 RS H15
            go_upto_region 14 with fail
            generalize w16.setCell ⟨p6, 3, none⟩ (.slice x16 y16 z16) = w17 at *
            have SD1 := Lib.hid (sameD_any _ _ bq mq nq _ _ tq w17 HO11c.out.row HO16.out.row (by have := HLT.out; omega))
            obtain ⟨e0, e1, e2, e3⟩ := delO_cells HX11c.out
            obtain ⟨f0, f1, f2, f3⟩ := delO_cells HP6b.out
            go_wp2_with fail
            refine SD1.out.mono ?_
            rintro e w18 ⟨rfl, hb18⟩
            have HB18 := Lib.hid (HB17.out.trans (hb18.mono HB17.out.size))
            have SD2 := Lib.hid (sameD_any _ _ bq mq nq _ _ tq w18 (HO13c.out.new hb18).row (HO16.out.new hb18).row (by have := HLT.out; omega))
            clear e0 e1 e2 e3 f0 f1 f2 f3 SD1
            obtain ⟨e0, e1, e2, e3⟩ := delO_cells (old_of hb18 HX13c.out)
            obtain ⟨f0, f1, f2, f3⟩ := delO_cells (old_of hb18 HP6b.out)
            clear hb18
            go_wp2_with fail
            refine SD2.out.mono ?_
            rintro e w19 ⟨rfl, hb19⟩
            have HB19 := Lib.hid (HB18.out.trans (hb19.mono HB18.out.size))
            clear e0 e1 e2 e3 f0 f1 f2 f3 SD2 hb19
            go_wp2_with fail
            refine (awake7_any _).mono ?_
            rintro e w20 ⟨rfl, hb20⟩
            have HB20 := Lib.hid (HB19.out.trans (hb20.mono HB19.out.size))
            go_wp2_with fail
            go_ret
            exact ⟨rfl, HB20.out⟩
end Go.Proofs.Ytpkgjokehgihjaa
