/- The walk of the law ChainGroups. (Written by gen/groups.py.) -/
import Derived.Test.YtpkgjokehgihjaaMkX
import Derived.Test.YtpkgjokehgihjaaTabX
import Derived.Test.YtpkgjokehgihjaaBldShelf
import Derived.Test.YtpkgjokehgihjaaBookW
import Derived.Test.YtpkgjokehgihjaaRcX
import Derived.Test.YtpkgjokehgihjaaTyX
import Derived.Test.YtpkgjokehgihjaaCdX
import Derived.Test.YtpkgjokehgihjaaSrX
import Derived.Test.YtpkgjokehgihjaaDelX
import Derived.Test.YtpkgjokehgihjaaFrame
import Derived.Test.YtpkgjokehgihjaaGen
import Derived.Test.YtpkgjokehgihjaaPtX
import Derived.Test.YtpkgjokehgihjaaMarkMath
import Derived.Test.YtpkgjokehgihjaaRollX
import Derived.Test.YtpkgjokehgihjaaNewTabW
import Derived.Test.YtpkgjokehgihjaaOdX
import Derived.Test.YtpkgjokehgihjaaOwnL
import Derived.Test.YtpkgjokehgihjaaProg
import Derived.Test.YtpkgjokehgihjaaRightDW
import Derived.Test.YtpkgjokehgihjaaRollMath
import Derived.Test.YtpkgjokehgihjaaRowKeep
import Derived.Test.YtpkgjokehgihjaaRows
import Derived.Test.YtpkgjokehgihjaaSeX
import Derived.Test.YtpkgjokehgihjaaSameW
import Derived.Test.YtpkgjokehgihjaaShelf
import Derived.Test.YtpkgjokehgihjaaSigAt
import Derived.Test.YtpkgjokehgihjaaSigOfW
import Derived.Test.YtpkgjokehgihjaaSignMath
import Derived.Test.YtpkgjokehgihjaaSignW
import Derived.Test.YtpkgjokehgihjaaSmall7W
import Derived.Test.YtpkgjokehgihjaaSortX
import Derived.Test.YtpkgjokehgihjaaSortEW
import Derived.BigQuiet
import Derived.Deep.CutBlock
import Derived.Deep.DeepCutAuto
import Derived.Deep.LoopGhost
import Derived.Deep.QuietTactic
import Derived.Deep.RegionHeld3
import Derived.Deep.RegionLaw
import Derived.IntWalk
import Derived.Laws.BitsAllLaws
import Derived.Laws.Externs
import Derived.Laws.MakeOwn
import Derived.Laws.Rows
import Derived.Laws.Tables
import Derived.Lib.AppendStr
import Derived.Lib.Builder
import Derived.Lib.Hide
import Derived.Lib.Strings
import Derived.Lib.Walk
import Derived.Outline
import Derived.Sort.Walk0
import Derived.StillTailTactics
import Derived.WalkKit
import Derived.WalkLawsBesides
import Derived.WalkSpells
set_option linter.unusedVariables false
namespace Go.Proofs.Ytpkgjokehgihjaa
open Go.RowKit

theorem cmpD_assoc {S : List Txt} {t0 t1 t2 t3 : Txt} {a b c : DD} (ha : DMk S t0 t1 a) (hb : DMk S t1 t2 b) (hc : DMk S t2 t3 c) : cmpD (cmpD a b) c = cmpD a (cmpD b c) := by
  unfold cmpD
  dsimp only
  rw [bytes_steps, bytes_steps, comp_assoc (by rw [hb.blen]; exact hc.inr)]
theorem comp_call {S : List Txt} {l s t : Txt} {a b : DD} (ha : DMk S l s a) (hb : DMk S s t b) {N M : Nat → Prop} {va vb : Value} {w : World} (h1 : RowS N w va a.l) (h2 : RowS M w vb b.l) :
    Calls Try.prog 27 #[a.v va, b.v vb] w fun e w' => ∃ v', e = .returned (.tuple #[(cmpD a b).v v', .int .i64 0]) ∧ OwnS w' w.heap.size v' (cmpD a b).l ∧ Below w.heap.size w w' := by
  have := compose_any N M a b va vb w h1 h2 ha.ok hb.ok
  rw [ha.comp hb] at this
  exact this
theorem three_of {xs : List DV} {a b c : DD} (h : xs.map (·.1) = [a, b, c]) : ∃ u v w, xs = [(a, u), (b, v), (c, w)] := by
  match xs, h with
  | [(x, u), (y, v), (z, w)], h =>
    simp at h
    obtain ⟨rfl, rfl, rfl⟩ := h
    exact ⟨u, v, w, rfl⟩
  | [], h => simp at h
  | [_], h => simp at h
  | [_, _], h => simp at h
  | _ :: _ :: _ :: _ :: _, h => simp at h
theorem four_of {T : List Txt} (h : T.length = 4) : ∃ a b c d, T = [a, b, c, d] := by
  match T, h with
  | [a, b, c, d], _ => exact ⟨a, b, c, d, rfl⟩
set_option maxRecDepth 100000 in
set_option maxHeartbeats 1000000 in
theorem chainGroups_walk (v : Value) (ts : List Txt) (z : Int) (hz1 : -9223372036854775808 ≤ z) (hz2 : z ≤ 9223372036854775807) (w : World) (h : Row encX (· < w.heap.size) w v ts) (_ : ts.length * 16 ≤ 140737488351232) :
    Calls Try.prog 8 #[v, .int .i64 z] w fun e w' => e = .returned (.bool true) ∧ Below w.heap.size w w' := by
  have FW := Lib.hid (few7_any _ v ts w h)
  have HLE := Lib.hid (fewS_le ts)
  have hl6 := fewS_len ts
  generalize fewS ts = L at *
  clear h
  go_enter Try.func8, Try.ntmps8
  go_wp2_with fail
  refine FW.out.mono ?_
  rintro e w1 ⟨v1, rfl, ho, hb1⟩
  have HO1 := Lib.hid ho
  have HB1 := Lib.hid hb1
  obtain ⟨a1, cp, rfl, _⟩ := HO1.out.row
  clear ho hb1 FW
  by_cases q1 : L.length < 4
  · have i1 : (L.length : Int) < 4 := by omega
    go_wp2_with fail
    refine (awake7_any _).mono ?_
    rintro e w2 ⟨rfl, b2⟩
    have HB2 := Lib.hid (HB1.out.trans (b2.mono HB1.out.size))
    go_wp2_with fail
    go_ret
    exact ⟨rfl, HB2.out⟩
  have i1 : ¬ (L.length : Int) < 4 := by omega
  by_cases q2 : z < 16
  · go_wp2_with fail
    refine (awake7_any _).mono ?_
    rintro e w2 ⟨rfl, b2⟩
    have HB2 := Lib.hid (HB1.out.trans (b2.mono HB1.out.size))
    go_wp2_with fail
    go_ret
    exact ⟨rfl, HB2.out⟩
  by_cases q3 : 1024 < z
  · go_wp2_with fail
    refine (awake7_any _).mono ?_
    rintro e w2 ⟨rfl, b2⟩
    have HB2 := Lib.hid (HB1.out.trans (b2.mono HB1.out.size))
    go_wp2_with fail
    go_ret
    exact ⟨rfl, HB2.out⟩
  obtain ⟨B, rfl⟩ : ∃ B : Nat, z = (B : Int) := ⟨z.toNat, by omega⟩
  clear hz1 hz2
  obtain ⟨_, _, hv1, hcap⟩ := own_cap HO1.out
  injection hv1 with hv11 hv12 hv13
  subst hv13
  clear hv11 hv12
  obtain ⟨ga, oa, HC⟩ : ∃ ga oa, a1 = some ⟨ga, oa, none⟩ ∧ Hid (∀ w', Below w1.heap.size w1 w' → ∀ i (hi : i < L.length), ga < w1.heap.size ∧ w'.cell? ⟨ga, oa + i, none⟩ = some (.string ⟨(L[i]'hi).toArray⟩)) := by
    rcases HO1.out.row.cases with ⟨e, _⟩ | ⟨b, off, cap, e, _, hc⟩
    · rw [e] at i1; simp at i1
    · injection e with e1 e2 e3
      exact ⟨b, off, e1, Lib.hid (fun w' hb i hi => ⟨World.block_lt_of_cell? _ _ (hc i hi), (hb.cell (World.block_lt_of_cell? _ _ (hc i hi))).trans (hc i hi)⟩)⟩
  obtain ⟨rfl, HC⟩ := HC
  have HT4 := Lib.hid (show (L.take 4).length = 4 by rw [List.length_take]; omega)
  have RW := Lib.hid (fun pb bm w' (hid : IdealAt w' pb bm []) (hp : w1.heap.size ≤ pb) (hm : w1.heap.size ≤ bm) (hb : Below w1.heap.size w1 w') => row_any pb bm B (.slice (some ⟨ga, oa, none⟩) 4 cp) (L.take 4) w' (by omega) (by omega) ⟨_, _, by rw [HT4.out], fun i hi => ⟨ga, oa, rfl, (by
      have h1 := (HC.out w' hb i (by rw [List.length_take] at hi; omega)).1
      rintro (e | e) <;> omega), by
      rw [List.getElem_take]
      exact (HC.out w' hb i (by rw [List.length_take] at hi; omega)).2⟩⟩ (by rw [HT4.out]; omega) (by rw [HT4.out]; omega) (fun t ht => HLE.out t (List.mem_of_mem_take ht)) hid)
  have k4 : (4 : Int) ≤ (cp : Int) := by omega
  have k4n : 4 ≤ cp := by omega
  have BD0 : Hid (Below w1.heap.size w1 w1.drew) := Lib.hid (Below_drew (Below.refl _ _))
  go_upto_region 4 with fail
  go_cut [5] (fun s5 wx => ∃ S xs, OwnD wx w1.heap.size s5 xs ∧ Hid (xs.map (·.1) = rowL S B (L.take 4)) ∧ Below w1.heap.size w1 wx)
  case first =>
    go_region_held3 (fun w' => True)
      (first | trivial)
      (first
        | (go_at_call 33; go_split_ands; refine (ideal_any _).mono ?_; rintro e w2 ⟨pb, bm, rfl, hid2, hp, hbm, hb2⟩; have RW2 := Lib.hid (RW.out pb bm w2 hid2 (Nat.le_trans BD0.out.size hp) (Nat.le_trans BD0.out.size hbm) (BD0.out.trans (hb2.mono BD0.out.size))); have HB2 := Lib.hid (BD0.out.trans (hb2.mono BD0.out.size)); have HPB := Lib.hid (show w1.heap.size ≤ pb ∧ w1.heap.size ≤ bm from ⟨Nat.le_trans BD0.out.size hp, Nat.le_trans BD0.out.size hbm⟩); clear hid2 hp hbm hb2)
        | (go_at_call 32; go_split_ands; refine RW2.out.mono ?_; rintro e w3 ⟨v3, S, xs, rfl, hd3, hx3, hin3, hS3, hid3, hk3⟩; have HD3 := Lib.hid (hd3.mono HB2.out.size); have HX3 := Lib.hid hx3; have HB3 := Lib.hid (HB2.out.trans (hk3.below HB2.out.size (fun k e => by have := HPB.out; rcases e with rfl | rfl <;> omega))); clear hd3 hx3 hin3 hS3 hid3 hk3))
    all_goals
      go_wp2_with fail
      go_meet
      exact ⟨S, xs, HD3.out, HX3, HB3.out⟩
  case rest =>
    obtain ⟨S, xs, hd, HX, hb5⟩ := hcut
    generalize wc = w5 at *
    have HB5 := Lib.hid (HB1.out.trans (hb5.mono HB1.out.size))
    obtain ⟨t0, t1, t2, t3, hT⟩ := four_of HT4.out
    have HLT := Lib.hid (fun t (ht : t ∈ L.take 4) => HLE.out t (List.mem_of_mem_take ht))
    rw [hT] at HX HLT
    have M0 := Lib.hid (dOf_mk S (B := B) (by omega) (HLT.out t0 (by simp)) (HLT.out t1 (by simp)))
    have M1 := Lib.hid (dOf_mk S (B := B) (by omega) (HLT.out t1 (by simp)) (HLT.out t2 (by simp)))
    have M2 := Lib.hid (dOf_mk S (B := B) (by omega) (HLT.out t2 (by simp)) (HLT.out t3 (by simp)))
    obtain ⟨u0, u1, u2, rfl⟩ := three_of (show xs.map (·.1) = [dOf S B t0 t1, dOf S B t1 t2, dOf S B t2 t3] from HX.out)
    generalize dOf S B t0 t1 = d0 at *
    generalize dOf S B t1 t2 = d1 at *
    generalize dOf S B t2 t3 = d2 at *
    obtain ⟨g3, cq, hv3, _, hat0⟩ := hd.own.at (i := 0) (by simp)
    have hat1 := hd.own.at (i := 1) (by simp)
    have hat2 := hd.own.at (i := 2) (by simp)
    subst hv3
    obtain ⟨_, _, hv3, _, hat1⟩ := hat1
    simp at hv3
    obtain ⟨rfl, rfl⟩ := hv3
    obtain ⟨_, _, hv3, _, hat2⟩ := hat2
    simp at hv3
    obtain ⟨rfl, rfl⟩ := hv3
    have hs0 := hd.st (d0, u0) (by simp)
    have hs1 := hd.st (d1, u1) (by simp)
    have hs2 := hd.st (d2, u2) (by simp)
    obtain ⟨x0, y0, z0, rfl⟩ := own_slice hs0
    obtain ⟨x1, y1, z1, rfl⟩ := own_slice hs1
    obtain ⟨x2, y2, z2, rfl⟩ := own_slice hs2
    dsimp only [List.getElem_cons_zero, List.getElem_cons_succ] at hat0 hat1 hat2
    have HS0 := Lib.hid hs0
    have HS1 := Lib.hid hs1
    have HS2 := Lib.hid hs2
    obtain ⟨ab, hab⟩ : ∃ ab, ab = cmpD d0 d1 := ⟨_, rfl⟩
    obtain ⟨bc, hbc⟩ : ∃ bc, bc = cmpD d1 d2 := ⟨_, rfl⟩
    obtain ⟨xy, hxy⟩ : ∃ xy, xy = cmpD ab d2 := ⟨_, rfl⟩
    have MAB := Lib.hid (show DMk S t0 t2 ab by rw [hab]; exact M0.out.cmp M1.out)
    have MBC := Lib.hid (show DMk S t1 t3 bc by rw [hbc]; exact M1.out.cmp M2.out)
    have MXY := Lib.hid (show DMk S t0 t3 xy by rw [hxy]; exact MAB.out.cmp M2.out)
    have HYX := Lib.hid (show cmpD d0 bc = xy by rw [hxy, hab, hbc]; exact (cmpD_assoc M0.out M1.out M2.out).symm)
    have CAB := Lib.hid (fun w' (h1 : RowS (fun _ => True) w' (.slice x0 y0 z0) d0.l) (h2 : RowS (fun _ => True) w' (.slice x1 y1 z1) d1.l) => comp_call M0.out M1.out h1 h2)
    have CBC := Lib.hid (fun w' (h1 : RowS (fun _ => True) w' (.slice x1 y1 z1) d1.l) (h2 : RowS (fun _ => True) w' (.slice x2 y2 z2) d2.l) => comp_call M1.out M2.out h1 h2)
    have CXA := Lib.hid (fun w' va (h1 : RowS (fun _ => True) w' va ab.l) (h2 : RowS (fun _ => True) w' (.slice x2 y2 z2) d2.l) => comp_call MAB.out M2.out h1 h2)
    have CXB := Lib.hid (fun w' vb (h1 : RowS (fun _ => True) w' (.slice x0 y0 z0) d0.l) (h2 : RowS (fun _ => True) w' vb bc.l) => comp_call M0.out MBC.out h1 h2)
    rw [← hab] at CAB
    rw [← hbc] at CBC
    rw [← hxy] at CXA
    rw [HYX.out] at CXB
    have HLX := Lib.hid (show xy.l.length ≤ 1000000 from MXY.out.ok.len)
    clear hab hbc hxy HYX M0 M1 M2 MAB MBC MXY HX HLT hs0 hs1 hs2 hT HT4
    obtain ⟨b0, m0, n0, l0⟩ := d0
    obtain ⟨b1, m1, n1, l1⟩ := d1
    obtain ⟨b2, m2, n2, l2⟩ := d2
    obtain ⟨ba, ma, na, la⟩ := ab
    obtain ⟨bb, mb, nb, lb⟩ := bc
    obtain ⟨bx, mx, nx, lx⟩ := xy
    dsimp only [DD.v] at *
    have F0 := Lib.hid (fun w' (hb : Below w5.heap.size w5 w') => show w'.cell? ⟨g3, 0, none⟩ = some (.string ⟨b0.toArray⟩) ∧ w'.cell? ⟨g3, 1, none⟩ = some (.string ⟨m0.toArray⟩) ∧ w'.cell? ⟨g3, 2, none⟩ = some (.int .i64 n0) ∧ w'.cell? ⟨g3, 3, none⟩ = some (.slice x0 y0 z0) from ⟨(hat0.new hb).c0, (hat0.new hb).c1, (hat0.new hb).c2, (hat0.new hb).c3⟩)
    have F1 := Lib.hid (fun w' (hb : Below w5.heap.size w5 w') => show w'.cell? ⟨g3, 4, none⟩ = some (.string ⟨b1.toArray⟩) ∧ w'.cell? ⟨g3, 5, none⟩ = some (.string ⟨m1.toArray⟩) ∧ w'.cell? ⟨g3, 6, none⟩ = some (.int .i64 n1) ∧ w'.cell? ⟨g3, 7, none⟩ = some (.slice x1 y1 z1) from ⟨(hat1.new hb).c0, (hat1.new hb).c1, (hat1.new hb).c2, (hat1.new hb).c3⟩)
    have F2 := Lib.hid (fun w' (hb : Below w5.heap.size w5 w') => show w'.cell? ⟨g3, 8, none⟩ = some (.string ⟨b2.toArray⟩) ∧ w'.cell? ⟨g3, 9, none⟩ = some (.string ⟨m2.toArray⟩) ∧ w'.cell? ⟨g3, 10, none⟩ = some (.int .i64 n2) ∧ w'.cell? ⟨g3, 11, none⟩ = some (.slice x2 y2 z2) from ⟨(hat2.new hb).c0, (hat2.new hb).c1, (hat2.new hb).c2, (hat2.new hb).c3⟩)
    have R0 := Lib.hid (fun w' (hb : Below w5.heap.size w5 w') => (HS0.out.row.mono (fun _ _ => trivial) |>.keep hb : RowS (fun _ => True) w' (.slice x0 y0 z0) l0))
    have R1 := Lib.hid (fun w' (hb : Below w5.heap.size w5 w') => (HS1.out.row.mono (fun _ _ => trivial) |>.keep hb : RowS (fun _ => True) w' (.slice x1 y1 z1) l1))
    have R2 := Lib.hid (fun w' (hb : Below w5.heap.size w5 w') => (HS2.out.row.mono (fun _ _ => trivial) |>.keep hb : RowS (fun _ => True) w' (.slice x2 y2 z2) l2))
    simp only [List.length_cons, List.length_nil, Nat.zero_add, Nat.reduceAdd]
    clear hat0 hat1 hat2 HS0 HS1 HS2 hd hb5 RW HC
    have FC7 := Lib.hid (fun w' (hb : Below w5.heap.size w5 w') => show w'.cell? ⟨g3, 0, none⟩ = some (.string ⟨b0.toArray⟩) ∧ w'.cell? ⟨g3, 1, none⟩ = some (.string ⟨m0.toArray⟩) ∧ w'.cell? ⟨g3, 2, none⟩ = some (.int .i64 n0) ∧ w'.cell? ⟨g3, 3, none⟩ = some (.slice x0 y0 z0) ∧ w'.cell? ⟨g3, 4, none⟩ = some (.string ⟨b1.toArray⟩) ∧ w'.cell? ⟨g3, 5, none⟩ = some (.string ⟨m1.toArray⟩) ∧ w'.cell? ⟨g3, 6, none⟩ = some (.int .i64 n1) ∧ w'.cell? ⟨g3, 7, none⟩ = some (.slice x1 y1 z1) from (by obtain ⟨p0, p1, p2, p3⟩ := F0.out w' hb; obtain ⟨q0, q1, q2, q3⟩ := F1.out w' hb; exact ⟨p0, p1, p2, p3, q0, q1, q2, q3⟩))
    have CP7 := Lib.hid (fun w' (hb : Below w5.heap.size w5 w') => CAB.out w' (R0.out w' hb) (R1.out w' hb))
    have BD : Hid (Below w5.heap.size w5 w5.drew) := Lib.hid (Below_drew (Below.refl _ _))
    have BA : Hid (Below w5.heap.size w5 (w5.alloc (delO [] [] 0 (.slice none 0 0))).drew) := Lib.hid (Below_drew (below_self_alloc w5 _))
    have XA : Hid ((w5.alloc (delO [] [] 0 (.slice none 0 0))).drew.heap[w5.heap.size]? = some (delO [] [] 0 (.slice none 0 0))) := Lib.hid (heap_alloc_new w5 _)
    go_upto_region 7 with fail
    obtain ⟨c0, c1, c2, c3, c4, c5, c6, c7⟩ := FC7.out _ BD.out
    obtain ⟨c0a, c1a, c2a, c3a, c4a, c5a, c6a, c7a⟩ := FC7.out _ BA.out
    go_cut [6, 7] (fun s6 s7 wx => ∃ p u, s6 = .pointer (some ⟨p, 0, none⟩) ∧ s7 = .int .i64 0 ∧ CBox wx w5 p ⟨ba, ma, na, la⟩ u)
    case first =>
      go_region_held3 (fun w' => w'.cell? ⟨g3, 0, none⟩ = some (.string ⟨b0.toArray⟩) ∧ w'.cell? ⟨g3, 1, none⟩ = some (.string ⟨m0.toArray⟩) ∧ w'.cell? ⟨g3, 2, none⟩ = some (.int .i64 n0) ∧ w'.cell? ⟨g3, 3, none⟩ = some (.slice x0 y0 z0) ∧ w'.cell? ⟨g3, 4, none⟩ = some (.string ⟨b1.toArray⟩) ∧ w'.cell? ⟨g3, 5, none⟩ = some (.string ⟨m1.toArray⟩) ∧ w'.cell? ⟨g3, 6, none⟩ = some (.int .i64 n1) ∧ w'.cell? ⟨g3, 7, none⟩ = some (.slice x1 y1 z1))
        (first | with_reducible exact ⟨by assumption, by assumption, by assumption, by assumption, by assumption, by assumption, by assumption, by assumption⟩ | go_keep)
        (first | (go_at_call 27; go_split_ands; first
          | (refine (CP7.out _ BD.out).mono ?_; rintro e w6 ⟨v', rfl, ho, hb⟩; obtain ⟨vca, vcm, vcc, rfl⟩ := own_slice ho; have H6 := Lib.hid (BD.out.trans (hb.mono BD.out.size)); have O6 := Lib.hid (ho.mono BD.out.size); have b6 := below_self_alloc w6 (delO [] [] 0 (.slice none 0 0)); have x6 := Lib.hid (heap_alloc_new w6 (delO [] [] 0 (.slice none 0 0))); have FB2 := Lib.hid (cbox_new (c := ⟨ba, ma, na, la⟩) O6.out H6.out); have H6a := Lib.hid (H6.out.trans (b6.mono H6.out.size)); have FB := Lib.hid (cbox_put (c := ⟨ba, ma, na, la⟩) x6.out H6.out.size (O6.out.new b6) H6a.out); obtain ⟨c0b, c1b, c2b, c3b, c4b, c5b, c6b, c7b⟩ := FC7.out w6 H6.out; obtain ⟨c0d, c1d, c2d, c3d, c4d, c5d, c6d, c7d⟩ := FC7.out _ H6a.out; clear b6 ho hb; obtain ⟨⟨S0, S0f⟩, ⟨S1, S1f⟩, ⟨S2, S2f⟩, ⟨S3, S3f⟩, _, _⟩ := four_store x6.out (.string ⟨ba.toArray⟩) (.string ⟨ma.toArray⟩) (.int .i64 na) (.slice vca vcm vcc); obtain ⟨c0f, c1f, c2f, c3f, c4f, c5f, c6f, c7f⟩ := FC7.out _ FB.out.bel; clear x6)
          | (refine (CP7.out _ BA.out).mono ?_; rintro e w6 ⟨v', rfl, ho, hb⟩; obtain ⟨vca, vcm, vcc, rfl⟩ := own_slice ho; have H6 := Lib.hid (BA.out.trans (hb.mono BA.out.size)); have x6 := Lib.hid (old_of hb XA.out); have FB := Lib.hid (cbox_put (c := ⟨ba, ma, na, la⟩) x6.out (Nat.le_refl _) (ho.mono BA.out.size) H6.out); obtain ⟨c0b, c1b, c2b, c3b, c4b, c5b, c6b, c7b⟩ := FC7.out w6 H6.out; clear ho hb; obtain ⟨⟨S0, S0f⟩, ⟨S1, S1f⟩, ⟨S2, S2f⟩, ⟨S3, S3f⟩, _, _⟩ := four_store x6.out (.string ⟨ba.toArray⟩) (.string ⟨ma.toArray⟩) (.int .i64 na) (.slice vca vcm vcc); obtain ⟨c0f, c1f, c2f, c3f, c4f, c5f, c6f, c7f⟩ := FC7.out _ FB.out.bel; clear x6)))
      all_goals
        clear c0 c0a c0b c0f c1 c1a c1b c1f c2 c2a c2b c2f c3 c3a c3b c3f c4 c4a c4b c4f c5 c5a c5b c5f c6 c6a c6b c6f c7 c7a c7b c7f S0 S0f S1 S1f S2 S2f S3 S3f
        first
          | (refine with_cbox FB2 ?_; clear FB2)
          | refine with_cbox FB ?_
        clear FB
        intro wf FB
        go_wp2_with fail
        go_meet
        exact ⟨_, _, rfl, rfl, FB.out⟩
    case rest =>
      obtain ⟨p7, u7, rfl, rfl, hbx7⟩ := hcut
      generalize wc = w7 at *
      obtain ⟨x7, y7, z7, rfl⟩ := own_slice hbx7.ho
      have HX7 := Lib.hid hbx7
      have h57 := Lib.hid hbx7.bel
      clear hbx7 FC7 CP7 BD BA XA
      have FC8 := Lib.hid (fun w' (hb : Below w7.heap.size w7 w') => show w'.cell? ⟨g3, 4, none⟩ = some (.string ⟨b1.toArray⟩) ∧ w'.cell? ⟨g3, 5, none⟩ = some (.string ⟨m1.toArray⟩) ∧ w'.cell? ⟨g3, 6, none⟩ = some (.int .i64 n1) ∧ w'.cell? ⟨g3, 7, none⟩ = some (.slice x1 y1 z1) ∧ w'.cell? ⟨g3, 8, none⟩ = some (.string ⟨b2.toArray⟩) ∧ w'.cell? ⟨g3, 9, none⟩ = some (.string ⟨m2.toArray⟩) ∧ w'.cell? ⟨g3, 10, none⟩ = some (.int .i64 n2) ∧ w'.cell? ⟨g3, 11, none⟩ = some (.slice x2 y2 z2) from (by obtain ⟨p0, p1, p2, p3⟩ := F1.out w' (h57.out.trans (hb.mono h57.out.size)); obtain ⟨q0, q1, q2, q3⟩ := F2.out w' (h57.out.trans (hb.mono h57.out.size)); exact ⟨p0, p1, p2, p3, q0, q1, q2, q3⟩))
      have CP8 := Lib.hid (fun w' (hb : Below w7.heap.size w7 w') => CBC.out w' (R1.out w' (h57.out.trans (hb.mono h57.out.size))) (R2.out w' (h57.out.trans (hb.mono h57.out.size))))
      have BD : Hid (Below w7.heap.size w7 w7.drew) := Lib.hid (Below_drew (Below.refl _ _))
      have BA : Hid (Below w7.heap.size w7 (w7.alloc (delO [] [] 0 (.slice none 0 0))).drew) := Lib.hid (Below_drew (below_self_alloc w7 _))
      have XA : Hid ((w7.alloc (delO [] [] 0 (.slice none 0 0))).drew.heap[w7.heap.size]? = some (delO [] [] 0 (.slice none 0 0))) := Lib.hid (heap_alloc_new w7 _)
      go_upto_region 8 with fail
      obtain ⟨c0, c1, c2, c3, c4, c5, c6, c7⟩ := FC8.out _ BD.out
      obtain ⟨c0a, c1a, c2a, c3a, c4a, c5a, c6a, c7a⟩ := FC8.out _ BA.out
      go_cut [8, 9] (fun s6 s7 wx => ∃ p u, s6 = .pointer (some ⟨p, 0, none⟩) ∧ s7 = .int .i64 0 ∧ CBox wx w7 p ⟨bb, mb, nb, lb⟩ u)
      case first =>
        go_region_held3 (fun w' => w'.cell? ⟨g3, 4, none⟩ = some (.string ⟨b1.toArray⟩) ∧ w'.cell? ⟨g3, 5, none⟩ = some (.string ⟨m1.toArray⟩) ∧ w'.cell? ⟨g3, 6, none⟩ = some (.int .i64 n1) ∧ w'.cell? ⟨g3, 7, none⟩ = some (.slice x1 y1 z1) ∧ w'.cell? ⟨g3, 8, none⟩ = some (.string ⟨b2.toArray⟩) ∧ w'.cell? ⟨g3, 9, none⟩ = some (.string ⟨m2.toArray⟩) ∧ w'.cell? ⟨g3, 10, none⟩ = some (.int .i64 n2) ∧ w'.cell? ⟨g3, 11, none⟩ = some (.slice x2 y2 z2))
          (first | with_reducible exact ⟨by assumption, by assumption, by assumption, by assumption, by assumption, by assumption, by assumption, by assumption⟩ | go_keep)
          (first | (go_at_call 27; go_split_ands; first
            | (refine (CP8.out _ BD.out).mono ?_; rintro e w6 ⟨v', rfl, ho, hb⟩; obtain ⟨vca, vcm, vcc, rfl⟩ := own_slice ho; have H6 := Lib.hid (BD.out.trans (hb.mono BD.out.size)); have O6 := Lib.hid (ho.mono BD.out.size); have b6 := below_self_alloc w6 (delO [] [] 0 (.slice none 0 0)); have x6 := Lib.hid (heap_alloc_new w6 (delO [] [] 0 (.slice none 0 0))); have FB2 := Lib.hid (cbox_new (c := ⟨bb, mb, nb, lb⟩) O6.out H6.out); have H6a := Lib.hid (H6.out.trans (b6.mono H6.out.size)); have FB := Lib.hid (cbox_put (c := ⟨bb, mb, nb, lb⟩) x6.out H6.out.size (O6.out.new b6) H6a.out); obtain ⟨c0b, c1b, c2b, c3b, c4b, c5b, c6b, c7b⟩ := FC8.out w6 H6.out; obtain ⟨c0d, c1d, c2d, c3d, c4d, c5d, c6d, c7d⟩ := FC8.out _ H6a.out; clear b6 ho hb; obtain ⟨⟨S0, S0f⟩, ⟨S1, S1f⟩, ⟨S2, S2f⟩, ⟨S3, S3f⟩, _, _⟩ := four_store x6.out (.string ⟨bb.toArray⟩) (.string ⟨mb.toArray⟩) (.int .i64 nb) (.slice vca vcm vcc); obtain ⟨c0f, c1f, c2f, c3f, c4f, c5f, c6f, c7f⟩ := FC8.out _ FB.out.bel; clear x6)
            | (refine (CP8.out _ BA.out).mono ?_; rintro e w6 ⟨v', rfl, ho, hb⟩; obtain ⟨vca, vcm, vcc, rfl⟩ := own_slice ho; have H6 := Lib.hid (BA.out.trans (hb.mono BA.out.size)); have x6 := Lib.hid (old_of hb XA.out); have FB := Lib.hid (cbox_put (c := ⟨bb, mb, nb, lb⟩) x6.out (Nat.le_refl _) (ho.mono BA.out.size) H6.out); obtain ⟨c0b, c1b, c2b, c3b, c4b, c5b, c6b, c7b⟩ := FC8.out w6 H6.out; clear ho hb; obtain ⟨⟨S0, S0f⟩, ⟨S1, S1f⟩, ⟨S2, S2f⟩, ⟨S3, S3f⟩, _, _⟩ := four_store x6.out (.string ⟨bb.toArray⟩) (.string ⟨mb.toArray⟩) (.int .i64 nb) (.slice vca vcm vcc); obtain ⟨c0f, c1f, c2f, c3f, c4f, c5f, c6f, c7f⟩ := FC8.out _ FB.out.bel; clear x6)))
        all_goals
          clear c0 c0a c0b c0f c1 c1a c1b c1f c2 c2a c2b c2f c3 c3a c3b c3f c4 c4a c4b c4f c5 c5a c5b c5f c6 c6a c6b c6f c7 c7a c7b c7f S0 S0f S1 S1f S2 S2f S3 S3f
          first
            | (refine with_cbox FB2 ?_; clear FB2)
            | refine with_cbox FB ?_
          clear FB
          intro wf FB
          go_wp2_with fail
          go_meet
          exact ⟨_, _, rfl, rfl, FB.out⟩
      case rest =>
        obtain ⟨p8, u8, rfl, rfl, hbx8⟩ := hcut
        generalize wc = w8 at *
        obtain ⟨x8, y8, z8, rfl⟩ := own_slice hbx8.ho
        have HX8 := Lib.hid hbx8
        have h78 := Lib.hid hbx8.bel
        have h58 := Lib.hid (h57.out.trans (h78.out.mono h57.out.size))
        clear hbx8 FC8 CP8 BD BA XA
        have FC9 := Lib.hid (fun w' (hb : Below w8.heap.size w8 w') => show w'.cell? ⟨p7, 0, none⟩ = some (.string ⟨ba.toArray⟩) ∧ w'.cell? ⟨p7, 1, none⟩ = some (.string ⟨ma.toArray⟩) ∧ w'.cell? ⟨p7, 2, none⟩ = some (.int .i64 na) ∧ w'.cell? ⟨p7, 3, none⟩ = some (.slice x7 y7 z7) ∧ w'.cell? ⟨g3, 8, none⟩ = some (.string ⟨b2.toArray⟩) ∧ w'.cell? ⟨g3, 9, none⟩ = some (.string ⟨m2.toArray⟩) ∧ w'.cell? ⟨g3, 10, none⟩ = some (.int .i64 n2) ∧ w'.cell? ⟨g3, 11, none⟩ = some (.slice x2 y2 z2) from (by obtain ⟨p0, p1, p2, p3⟩ := delO_cells (old_of hb (old_of h78.out HX7.out.h6)); obtain ⟨q0, q1, q2, q3⟩ := F2.out w' (h58.out.trans (hb.mono h58.out.size)); exact ⟨p0, p1, p2, p3, q0, q1, q2, q3⟩))
        have CP9 := Lib.hid (fun w' (hb : Below w8.heap.size w8 w') => CXA.out w' _ (((HX7.out.ho.new h78.out).new hb).row.mono (fun _ _ => trivial)) (R2.out w' (h58.out.trans (hb.mono h58.out.size))))
        have BD : Hid (Below w8.heap.size w8 w8.drew) := Lib.hid (Below_drew (Below.refl _ _))
        have BA : Hid (Below w8.heap.size w8 (w8.alloc (delO [] [] 0 (.slice none 0 0))).drew) := Lib.hid (Below_drew (below_self_alloc w8 _))
        have XA : Hid ((w8.alloc (delO [] [] 0 (.slice none 0 0))).drew.heap[w8.heap.size]? = some (delO [] [] 0 (.slice none 0 0))) := Lib.hid (heap_alloc_new w8 _)
        go_upto_region 9 with fail
        obtain ⟨c0, c1, c2, c3, c4, c5, c6, c7⟩ := FC9.out _ BD.out
        obtain ⟨c0a, c1a, c2a, c3a, c4a, c5a, c6a, c7a⟩ := FC9.out _ BA.out
        go_cut [10, 11] (fun s6 s7 wx => ∃ p u, s6 = .pointer (some ⟨p, 0, none⟩) ∧ s7 = .int .i64 0 ∧ CBox wx w8 p ⟨bx, mx, nx, lx⟩ u)
        case first =>
          go_region_held3 (fun w' => w'.cell? ⟨p7, 0, none⟩ = some (.string ⟨ba.toArray⟩) ∧ w'.cell? ⟨p7, 1, none⟩ = some (.string ⟨ma.toArray⟩) ∧ w'.cell? ⟨p7, 2, none⟩ = some (.int .i64 na) ∧ w'.cell? ⟨p7, 3, none⟩ = some (.slice x7 y7 z7) ∧ w'.cell? ⟨g3, 8, none⟩ = some (.string ⟨b2.toArray⟩) ∧ w'.cell? ⟨g3, 9, none⟩ = some (.string ⟨m2.toArray⟩) ∧ w'.cell? ⟨g3, 10, none⟩ = some (.int .i64 n2) ∧ w'.cell? ⟨g3, 11, none⟩ = some (.slice x2 y2 z2))
            (first | with_reducible exact ⟨by assumption, by assumption, by assumption, by assumption, by assumption, by assumption, by assumption, by assumption⟩ | go_keep)
            (first | (go_at_call 27; go_split_ands; first
              | (refine (CP9.out _ BD.out).mono ?_; rintro e w6 ⟨v', rfl, ho, hb⟩; obtain ⟨vca, vcm, vcc, rfl⟩ := own_slice ho; have H6 := Lib.hid (BD.out.trans (hb.mono BD.out.size)); have O6 := Lib.hid (ho.mono BD.out.size); have b6 := below_self_alloc w6 (delO [] [] 0 (.slice none 0 0)); have x6 := Lib.hid (heap_alloc_new w6 (delO [] [] 0 (.slice none 0 0))); have FB2 := Lib.hid (cbox_new (c := ⟨bx, mx, nx, lx⟩) O6.out H6.out); have H6a := Lib.hid (H6.out.trans (b6.mono H6.out.size)); have FB := Lib.hid (cbox_put (c := ⟨bx, mx, nx, lx⟩) x6.out H6.out.size (O6.out.new b6) H6a.out); obtain ⟨c0b, c1b, c2b, c3b, c4b, c5b, c6b, c7b⟩ := FC9.out w6 H6.out; obtain ⟨c0d, c1d, c2d, c3d, c4d, c5d, c6d, c7d⟩ := FC9.out _ H6a.out; clear b6 ho hb; obtain ⟨⟨S0, S0f⟩, ⟨S1, S1f⟩, ⟨S2, S2f⟩, ⟨S3, S3f⟩, _, _⟩ := four_store x6.out (.string ⟨bx.toArray⟩) (.string ⟨mx.toArray⟩) (.int .i64 nx) (.slice vca vcm vcc); obtain ⟨c0f, c1f, c2f, c3f, c4f, c5f, c6f, c7f⟩ := FC9.out _ FB.out.bel; clear x6)
              | (refine (CP9.out _ BA.out).mono ?_; rintro e w6 ⟨v', rfl, ho, hb⟩; obtain ⟨vca, vcm, vcc, rfl⟩ := own_slice ho; have H6 := Lib.hid (BA.out.trans (hb.mono BA.out.size)); have x6 := Lib.hid (old_of hb XA.out); have FB := Lib.hid (cbox_put (c := ⟨bx, mx, nx, lx⟩) x6.out (Nat.le_refl _) (ho.mono BA.out.size) H6.out); obtain ⟨c0b, c1b, c2b, c3b, c4b, c5b, c6b, c7b⟩ := FC9.out w6 H6.out; clear ho hb; obtain ⟨⟨S0, S0f⟩, ⟨S1, S1f⟩, ⟨S2, S2f⟩, ⟨S3, S3f⟩, _, _⟩ := four_store x6.out (.string ⟨bx.toArray⟩) (.string ⟨mx.toArray⟩) (.int .i64 nx) (.slice vca vcm vcc); obtain ⟨c0f, c1f, c2f, c3f, c4f, c5f, c6f, c7f⟩ := FC9.out _ FB.out.bel; clear x6)))
          all_goals
            clear c0 c0a c0b c0f c1 c1a c1b c1f c2 c2a c2b c2f c3 c3a c3b c3f c4 c4a c4b c4f c5 c5a c5b c5f c6 c6a c6b c6f c7 c7a c7b c7f S0 S0f S1 S1f S2 S2f S3 S3f
            first
              | (refine with_cbox FB2 ?_; clear FB2)
              | refine with_cbox FB ?_
            clear FB
            intro wf FB
            go_wp2_with fail
            go_meet
            exact ⟨_, _, rfl, rfl, FB.out⟩
        case rest =>
          obtain ⟨p9, u9, rfl, rfl, hbx9⟩ := hcut
          generalize wc = w9 at *
          obtain ⟨x9, y9, z9, rfl⟩ := own_slice hbx9.ho
          have HX9 := Lib.hid hbx9
          have h89 := Lib.hid hbx9.bel
          have h59 := Lib.hid (h58.out.trans (h89.out.mono h58.out.size))
          clear hbx9 FC9 CP9 BD BA XA
          have FC10 := Lib.hid (fun w' (hb : Below w9.heap.size w9 w') => show w'.cell? ⟨g3, 0, none⟩ = some (.string ⟨b0.toArray⟩) ∧ w'.cell? ⟨g3, 1, none⟩ = some (.string ⟨m0.toArray⟩) ∧ w'.cell? ⟨g3, 2, none⟩ = some (.int .i64 n0) ∧ w'.cell? ⟨g3, 3, none⟩ = some (.slice x0 y0 z0) ∧ w'.cell? ⟨p8, 0, none⟩ = some (.string ⟨bb.toArray⟩) ∧ w'.cell? ⟨p8, 1, none⟩ = some (.string ⟨mb.toArray⟩) ∧ w'.cell? ⟨p8, 2, none⟩ = some (.int .i64 nb) ∧ w'.cell? ⟨p8, 3, none⟩ = some (.slice x8 y8 z8) from (by obtain ⟨p0, p1, p2, p3⟩ := F0.out w' (h59.out.trans (hb.mono h59.out.size)); obtain ⟨q0, q1, q2, q3⟩ := delO_cells (old_of hb (old_of h89.out HX8.out.h6)); exact ⟨p0, p1, p2, p3, q0, q1, q2, q3⟩))
          have CP10 := Lib.hid (fun w' (hb : Below w9.heap.size w9 w') => CXB.out w' _ (R0.out w' (h59.out.trans (hb.mono h59.out.size))) (((HX8.out.ho.new h89.out).new hb).row.mono (fun _ _ => trivial)))
          have BD : Hid (Below w9.heap.size w9 w9.drew) := Lib.hid (Below_drew (Below.refl _ _))
          have BA : Hid (Below w9.heap.size w9 (w9.alloc (delO [] [] 0 (.slice none 0 0))).drew) := Lib.hid (Below_drew (below_self_alloc w9 _))
          have XA : Hid ((w9.alloc (delO [] [] 0 (.slice none 0 0))).drew.heap[w9.heap.size]? = some (delO [] [] 0 (.slice none 0 0))) := Lib.hid (heap_alloc_new w9 _)
          go_upto_region 10 with fail
          obtain ⟨c0, c1, c2, c3, c4, c5, c6, c7⟩ := FC10.out _ BD.out
          obtain ⟨c0a, c1a, c2a, c3a, c4a, c5a, c6a, c7a⟩ := FC10.out _ BA.out
          go_cut [12, 13] (fun s6 s7 wx => ∃ p u, s6 = .pointer (some ⟨p, 0, none⟩) ∧ s7 = .int .i64 0 ∧ CBox wx w9 p ⟨bx, mx, nx, lx⟩ u)
          case first =>
            go_region_held3 (fun w' => w'.cell? ⟨g3, 0, none⟩ = some (.string ⟨b0.toArray⟩) ∧ w'.cell? ⟨g3, 1, none⟩ = some (.string ⟨m0.toArray⟩) ∧ w'.cell? ⟨g3, 2, none⟩ = some (.int .i64 n0) ∧ w'.cell? ⟨g3, 3, none⟩ = some (.slice x0 y0 z0) ∧ w'.cell? ⟨p8, 0, none⟩ = some (.string ⟨bb.toArray⟩) ∧ w'.cell? ⟨p8, 1, none⟩ = some (.string ⟨mb.toArray⟩) ∧ w'.cell? ⟨p8, 2, none⟩ = some (.int .i64 nb) ∧ w'.cell? ⟨p8, 3, none⟩ = some (.slice x8 y8 z8))
              (first | with_reducible exact ⟨by assumption, by assumption, by assumption, by assumption, by assumption, by assumption, by assumption, by assumption⟩ | go_keep)
              (first | (go_at_call 27; go_split_ands; first
                | (refine (CP10.out _ BD.out).mono ?_; rintro e w6 ⟨v', rfl, ho, hb⟩; obtain ⟨vca, vcm, vcc, rfl⟩ := own_slice ho; have H6 := Lib.hid (BD.out.trans (hb.mono BD.out.size)); have O6 := Lib.hid (ho.mono BD.out.size); have b6 := below_self_alloc w6 (delO [] [] 0 (.slice none 0 0)); have x6 := Lib.hid (heap_alloc_new w6 (delO [] [] 0 (.slice none 0 0))); have FB2 := Lib.hid (cbox_new (c := ⟨bx, mx, nx, lx⟩) O6.out H6.out); have H6a := Lib.hid (H6.out.trans (b6.mono H6.out.size)); have FB := Lib.hid (cbox_put (c := ⟨bx, mx, nx, lx⟩) x6.out H6.out.size (O6.out.new b6) H6a.out); obtain ⟨c0b, c1b, c2b, c3b, c4b, c5b, c6b, c7b⟩ := FC10.out w6 H6.out; obtain ⟨c0d, c1d, c2d, c3d, c4d, c5d, c6d, c7d⟩ := FC10.out _ H6a.out; clear b6 ho hb; obtain ⟨⟨S0, S0f⟩, ⟨S1, S1f⟩, ⟨S2, S2f⟩, ⟨S3, S3f⟩, _, _⟩ := four_store x6.out (.string ⟨bx.toArray⟩) (.string ⟨mx.toArray⟩) (.int .i64 nx) (.slice vca vcm vcc); obtain ⟨c0f, c1f, c2f, c3f, c4f, c5f, c6f, c7f⟩ := FC10.out _ FB.out.bel; clear x6)
                | (refine (CP10.out _ BA.out).mono ?_; rintro e w6 ⟨v', rfl, ho, hb⟩; obtain ⟨vca, vcm, vcc, rfl⟩ := own_slice ho; have H6 := Lib.hid (BA.out.trans (hb.mono BA.out.size)); have x6 := Lib.hid (old_of hb XA.out); have FB := Lib.hid (cbox_put (c := ⟨bx, mx, nx, lx⟩) x6.out (Nat.le_refl _) (ho.mono BA.out.size) H6.out); obtain ⟨c0b, c1b, c2b, c3b, c4b, c5b, c6b, c7b⟩ := FC10.out w6 H6.out; clear ho hb; obtain ⟨⟨S0, S0f⟩, ⟨S1, S1f⟩, ⟨S2, S2f⟩, ⟨S3, S3f⟩, _, _⟩ := four_store x6.out (.string ⟨bx.toArray⟩) (.string ⟨mx.toArray⟩) (.int .i64 nx) (.slice vca vcm vcc); obtain ⟨c0f, c1f, c2f, c3f, c4f, c5f, c6f, c7f⟩ := FC10.out _ FB.out.bel; clear x6)))
            all_goals
              clear c0 c0a c0b c0f c1 c1a c1b c1f c2 c2a c2b c2f c3 c3a c3b c3f c4 c4a c4b c4f c5 c5a c5b c5f c6 c6a c6b c6f c7 c7a c7b c7f S0 S0f S1 S1f S2 S2f S3 S3f
              first
                | (refine with_cbox FB2 ?_; clear FB2)
                | refine with_cbox FB ?_
              clear FB
              intro wf FB
              go_wp2_with fail
              go_meet
              exact ⟨_, _, rfl, rfl, FB.out⟩
          case rest =>
            obtain ⟨p10, u10, rfl, rfl, hbx10⟩ := hcut
            generalize wc = w10 at *
            obtain ⟨x10, y10, z10, rfl⟩ := own_slice hbx10.ho
            have HB10 := Lib.hid (HB5.out.trans (((h59.out.trans (hbx10.bel.mono h59.out.size))).mono HB5.out.size))
            obtain ⟨e0, e1, e2, e3⟩ := delO_cells (old_of hbx10.bel HX9.out.h6)
            obtain ⟨f0, f1, f2, f3⟩ := delO_cells hbx10.h6
            have SD := Lib.hid (sameD_any _ _ bx mx nx _ _ lx w10 ((HX9.out.ho.new hbx10.bel).row) hbx10.ho.row (by have := HLX.out; omega))
            clear hbx10 FC10 CP10 BD BA XA
            go_wp2_with fail
            refine SD.out.mono ?_
            rintro e w11 ⟨rfl, b11⟩
            have HB11 := Lib.hid (HB10.out.trans (b11.mono HB10.out.size))
            clear b11 e0 e1 e2 e3 f0 f1 f2 f3 SD
            go_wp2_with fail
            refine (awake7_any _).mono ?_
            rintro e w12 ⟨rfl, b12⟩
            have HB12 := Lib.hid (HB11.out.trans (b12.mono HB11.out.size))
            go_wp2_with fail
            go_ret
            exact ⟨rfl, HB12.out⟩
end Go.Proofs.Ytpkgjokehgihjaa
