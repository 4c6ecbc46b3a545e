/- What is read is what would be made: the walk of statement 1.5 CodeCanon. (Written by gen/canon.py.) -/
import Derived.Test.YtegdabdnbglhaaaPartsMath
import Derived.WalkKit
import Derived.WalkSpells
import Derived.WalkLawsBesides
import Derived.BigQuiet
set_option linter.unusedVariables false
namespace Go.Proofs.Ytegdabdnbglhaaa
open Go.RowKit

theorem num_canon (L : List UInt8) : ∃ (q : Nat) (t1 : RS), rNum ⟨L, 0⟩ = ((q : Int), t1) ∧ q ≤ 4611686018427387903 ∧ (t1.e = 0 → L = nb q ++ t1.l) := by
  by_cases he : (rNum ⟨L, 0⟩).2.e = 0
  · obtain ⟨q, h1, h2, h3⟩ := rNum_split ⟨L, 0⟩ (.inl rfl) he
    exact ⟨q, (rNum ⟨L, 0⟩).2, by rw [← h2], h1, fun _ => h3⟩
  · exact ⟨0, (rNum ⟨L, 0⟩).2, Prod.ext (rNum_zero _ he) rfl, by decide, fun h => absurd h he⟩
/-- The test of the law: where there is no error, the bytes are one. -/
theorem cut_of (L pre : List UInt8) (t : RS) (h : t.e = 0 → L = pre ++ t.l) :
    ((t.e == 0) = true ∧ (t.e != 0) = false ∧ t.l.length ≤ L.length ∧ (pre == ((ByteArray.mk L.toArray).extract 0 (L.length - t.l.length)).toList) = true) ∨ ((t.e == 0) = false ∧ (t.e != 0) = true) := by
  by_cases he : t.e = 0
  · refine .inl ⟨by simp [he], by simp [he], (cut_eq _ _ _ (h he)).1, ?_⟩
    rw [ByteArray.extract_mk, List.drop_zero, Nat.sub_zero, ByteArray.toList_mk]
    exact (cut_eq _ _ _ (h he)).2
  · exact .inr ⟨by simp [he], by simp [he]⟩

theorem err_same (w : World) (g : Nat) (s : RS) (h : Rd w g s) :
    Calls Try.prog 23 #[ptr g] w fun e w' => e = .returned (.int .i64 s.e) ∧ w = w' := (err_any w g s h).mono fun _ _ ⟨h1, h2⟩ => ⟨h1, h2.symm⟩
theorem left_same (w : World) (g : Nat) (s : RS) (h : Rd w g s) :
    Calls Try.prog 22 #[ptr g] w fun e w' => e = .returned (.int .i64 s.l.length) ∧ w = w' := (left_any w g s h).mono fun _ _ ⟨h1, h2⟩ => ⟨h1, h2.symm⟩
theorem Row.of_new {α : Type} {enc : α → Value} {w : World} {base : Nat} {e : TypeId} {v : Value} {xs : List α} (h : OwnL enc w base e v xs) : Row enc (· < w.heap.size) w v xs := by
  obtain ⟨a, cap, rfl, hc⟩ := h.row
  refine ⟨a, cap, rfl, fun i hi => ?_⟩
  obtain ⟨b, off, rfl, _, hcell⟩ := hc i hi
  exact ⟨b, off, rfl, World.block_lt_of_cell? w _ hcell, hcell⟩

set_option maxRecDepth 100000 in
set_option maxHeartbeats 3200000 in
theorem codeCanon_walk (s : List UInt8) (hs : s.length ≤ 140737488351232) (w : World) :
    Calls Try.prog 7 #[.string ⟨s.toArray⟩] w fun e w' => e = .returned (.bool true) ∧ Below w.heap.size w w' := by
  by_cases h4 : 4000 < s.length
  · have HL4 := Lib.hid (show (s.take 4000).length ≤ 4000 by rw [List.length_take]; omega)
    go_enter Try.func7, Try.ntmps7
    go_wp2_with fail
    try rw [take_toArray]
    generalize s.take 4000 = L at HL4
    have hL := HL4.out
    clear HL4
    refine (read_any L w).mono ?_
    rintro e w1 ⟨rfl, hr1, hb1⟩
    have Hn := Lib.hid (rnum_any w1 w.heap.size _ hr1 (.inl rfl))
    obtain ⟨q, t1, hqt, hq, hspl⟩ := num_canon L
    rw [hqt] at Hn
    have Hcut1 := Lib.hid (cut_of _ _ _ hspl)
    clear hspl hqt
    go_wp2_with fail
    refine Hn.out.mono ?_
    rintro e w2 ⟨rfl, hr2, hk2⟩
    have Hm := Lib.hid (num_ok q w2 hq)
    go_wp2_with fail
    refine Hm.out.mono ?_
    rintro e w3 ⟨rfl, hb3⟩
    have hR1 : Rd w3 w.heap.size t1 := hr2.kept (Kept.of_below hb3) (by have := hr2.lt; omega)
    have hall1 : Below w.heap.size w w3 := (hb1.trans (hk2.below hb1.size (fun k hk => by omega))).trans (hb3.mono (by have := hr2.lt; omega))
    clear hr1 hb1 hk2 hr2 hb3 Hn Hm hq
    have Herr1 := Lib.hid (err_same w3 _ _ hR1)
    have Hleft1 := Lib.hid (left_same w3 _ _ hR1)
    rcases Hcut1.out with ⟨hz1, hy1, hle1, hcm1⟩ | ⟨hz1, hy1⟩
    all_goals
      clear Hcut1
      go_wp2_with fail
      refine Herr1.out.mono ?_
      rintro e w0 ⟨rfl, rfl⟩
      go_wp2_with fail
      try ((with_reducible refine Hleft1.out.mono ?_); rintro e w0 ⟨rfl, rfl⟩; go_wp2_with fail)
      refine (read_any L w3).mono ?_
      rintro e wa ⟨rfl, hra, hba⟩
      have Hn := Lib.hid (rnums_any wa _ _ 4000 hra (.inl rfl) (by show L.length ≤ _; omega))
      have Hcan := Lib.hid (parts_canon back_int rNum_ok L)
      have hcl := Hcan.out.1
      have Hcut2 := Lib.hid (cut_of _ _ _ Hcan.out.2)
      generalize hxs : (rParts rNum ⟨L, 0⟩ 4000).1 = xs2 at Hn hcl Hcut2
      generalize hts : (rParts rNum ⟨L, 0⟩ 4000).2 = t2 at Hn Hcut2
      clear hxs hts Hcan
      go_wp2_with fail
      refine Hn.out.mono ?_
      rintro e wb ⟨v2, rfl, hown, hrb, hkb⟩
      have hgb := hrb.lt
      have Hrow := Lib.hid (Row.of_new hown)
      have Hm := Lib.hid (makeInts_any _ _ wb Hrow.out (by omega))
      clear hown
      go_wp2_with fail
      refine Hm.out.mono ?_
      rintro e w5 ⟨rfl, hbc⟩
      have hR2 : Rd w5 (w3).heap.size t2 := hrb.kept (Kept.of_below hbc) (by omega)
      have hall2 : Below w.heap.size w w5 := hall1.trans (((hba.trans (hkb.below hba.size (fun k hk => by rcases hk with h | h; omega; have := hba.size; omega))).trans (hbc.mono (by have := hba.size; have := hkb.size; omega))).mono hall1.size)
      clear hra hba hgb hkb hrb hbc Hn Hm Hrow hcl
      have Herr2 := Lib.hid (err_same w5 _ _ hR2)
      have Hleft2 := Lib.hid (left_same w5 _ _ hR2)
      rcases Hcut2.out with ⟨hz2, hy2, hle2, hcm2⟩ | ⟨hz2, hy2⟩
      all_goals
        clear Hcut2
        go_wp2_with fail
        refine Herr2.out.mono ?_
        rintro e w0 ⟨rfl, rfl⟩
        go_wp2_with fail
        try ((with_reducible refine Hleft2.out.mono ?_); rintro e w0 ⟨rfl, rfl⟩; go_wp2_with fail)
        refine (read_any L w5).mono ?_
        rintro e wa ⟨rfl, hra, hba⟩
        have Hn := Lib.hid (rtexts_any wa _ _ 4000 4000 hra (.inl rfl) (by show L.length ≤ _; omega))
        have Hcan := Lib.hid (parts_canon (back_text 4000 (by decide)) (fun s h => rText_ok s 4000 h) L)
        have hcl := Hcan.out.1
        have Hcut3 := Lib.hid (cut_of _ _ _ Hcan.out.2)
        generalize hxs : (rParts (rText · 4000) ⟨L, 0⟩ 4000).1 = xs3 at Hn hcl Hcut3
        generalize hts : (rParts (rText · 4000) ⟨L, 0⟩ 4000).2 = t3 at Hn Hcut3
        clear hxs hts Hcan
        go_wp2_with fail
        refine Hn.out.mono ?_
        rintro e wb ⟨v3, rfl, hown, hrb, hkb⟩
        have hgb := hrb.lt
        have Hrow := Lib.hid (Row.of_new hown)
        have Hm := Lib.hid (makeStrs_any _ _ wb Hrow.out (by omega))
        clear hown
        go_wp2_with fail
        refine Hm.out.mono ?_
        rintro e w7 ⟨rfl, hbc⟩
        have hR3 : Rd w7 (w5).heap.size t3 := hrb.kept (Kept.of_below hbc) (by omega)
        have hall3 : Below w.heap.size w w7 := hall2.trans (((hba.trans (hkb.below hba.size (fun k hk => by rcases hk with h | h; omega; have := hba.size; omega))).trans (hbc.mono (by have := hba.size; have := hkb.size; omega))).mono hall2.size)
        clear hra hba hgb hkb hrb hbc Hn Hm Hrow hcl
        have Herr3 := Lib.hid (err_same w7 _ _ hR3)
        have Hleft3 := Lib.hid (left_same w7 _ _ hR3)
        rcases Hcut3.out with ⟨hz3, hy3, hle3, hcm3⟩ | ⟨hz3, hy3⟩
        all_goals
          clear Hcut3
          go_wp2_with fail
          refine Herr3.out.mono ?_
          rintro e w0 ⟨rfl, rfl⟩
          go_wp2_with fail
          try ((with_reducible refine Hleft3.out.mono ?_); rintro e w0 ⟨rfl, rfl⟩; go_wp2_with fail)
          refine (awake_any _).mono ?_
          rintro e wz ⟨rfl, hbz⟩
          go_wp2
          go_ret
          exact ⟨rfl, hall3.trans (hbz.mono hall3.size)⟩

  · have hL : s.length ≤ 4000 := by omega
    go_enter Try.func7, Try.ntmps7
    go_wp2_with fail
    refine (read_any s w).mono ?_
    rintro e w1 ⟨rfl, hr1, hb1⟩
    have Hn := Lib.hid (rnum_any w1 w.heap.size _ hr1 (.inl rfl))
    obtain ⟨q, t1, hqt, hq, hspl⟩ := num_canon s
    rw [hqt] at Hn
    have Hcut1 := Lib.hid (cut_of _ _ _ hspl)
    clear hspl hqt
    go_wp2_with fail
    refine Hn.out.mono ?_
    rintro e w2 ⟨rfl, hr2, hk2⟩
    have Hm := Lib.hid (num_ok q w2 hq)
    go_wp2_with fail
    refine Hm.out.mono ?_
    rintro e w3 ⟨rfl, hb3⟩
    have hR1 : Rd w3 w.heap.size t1 := hr2.kept (Kept.of_below hb3) (by have := hr2.lt; omega)
    have hall1 : Below w.heap.size w w3 := (hb1.trans (hk2.below hb1.size (fun k hk => by omega))).trans (hb3.mono (by have := hr2.lt; omega))
    clear hr1 hb1 hk2 hr2 hb3 Hn Hm hq
    have Herr1 := Lib.hid (err_same w3 _ _ hR1)
    have Hleft1 := Lib.hid (left_same w3 _ _ hR1)
    rcases Hcut1.out with ⟨hz1, hy1, hle1, hcm1⟩ | ⟨hz1, hy1⟩
    all_goals
      clear Hcut1
      go_wp2_with fail
      refine Herr1.out.mono ?_
      rintro e w0 ⟨rfl, rfl⟩
      go_wp2_with fail
      try ((with_reducible refine Hleft1.out.mono ?_); rintro e w0 ⟨rfl, rfl⟩; go_wp2_with fail)
      refine (read_any s w3).mono ?_
      rintro e wa ⟨rfl, hra, hba⟩
      have Hn := Lib.hid (rnums_any wa _ _ 4000 hra (.inl rfl) (by show s.length ≤ _; omega))
      have Hcan := Lib.hid (parts_canon back_int rNum_ok s)
      have hcl := Hcan.out.1
      have Hcut2 := Lib.hid (cut_of _ _ _ Hcan.out.2)
      generalize hxs : (rParts rNum ⟨s, 0⟩ 4000).1 = xs2 at Hn hcl Hcut2
      generalize hts : (rParts rNum ⟨s, 0⟩ 4000).2 = t2 at Hn Hcut2
      clear hxs hts Hcan
      go_wp2_with fail
      refine Hn.out.mono ?_
      rintro e wb ⟨v2, rfl, hown, hrb, hkb⟩
      have hgb := hrb.lt
      have Hrow := Lib.hid (Row.of_new hown)
      have Hm := Lib.hid (makeInts_any _ _ wb Hrow.out (by omega))
      clear hown
      go_wp2_with fail
      refine Hm.out.mono ?_
      rintro e w5 ⟨rfl, hbc⟩
      have hR2 : Rd w5 (w3).heap.size t2 := hrb.kept (Kept.of_below hbc) (by omega)
      have hall2 : Below w.heap.size w w5 := hall1.trans (((hba.trans (hkb.below hba.size (fun k hk => by rcases hk with h | h; omega; have := hba.size; omega))).trans (hbc.mono (by have := hba.size; have := hkb.size; omega))).mono hall1.size)
      clear hra hba hgb hkb hrb hbc Hn Hm Hrow hcl
      have Herr2 := Lib.hid (err_same w5 _ _ hR2)
      have Hleft2 := Lib.hid (left_same w5 _ _ hR2)
      rcases Hcut2.out with ⟨hz2, hy2, hle2, hcm2⟩ | ⟨hz2, hy2⟩
      all_goals
        clear Hcut2
        go_wp2_with fail
        refine Herr2.out.mono ?_
        rintro e w0 ⟨rfl, rfl⟩
        go_wp2_with fail
        try ((with_reducible refine Hleft2.out.mono ?_); rintro e w0 ⟨rfl, rfl⟩; go_wp2_with fail)
        refine (read_any s w5).mono ?_
        rintro e wa ⟨rfl, hra, hba⟩
        have Hn := Lib.hid (rtexts_any wa _ _ 4000 4000 hra (.inl rfl) (by show s.length ≤ _; omega))
        have Hcan := Lib.hid (parts_canon (back_text 4000 (by decide)) (fun s h => rText_ok s 4000 h) s)
        have hcl := Hcan.out.1
        have Hcut3 := Lib.hid (cut_of _ _ _ Hcan.out.2)
        generalize hxs : (rParts (rText · 4000) ⟨s, 0⟩ 4000).1 = xs3 at Hn hcl Hcut3
        generalize hts : (rParts (rText · 4000) ⟨s, 0⟩ 4000).2 = t3 at Hn Hcut3
        clear hxs hts Hcan
        go_wp2_with fail
        refine Hn.out.mono ?_
        rintro e wb ⟨v3, rfl, hown, hrb, hkb⟩
        have hgb := hrb.lt
        have Hrow := Lib.hid (Row.of_new hown)
        have Hm := Lib.hid (makeStrs_any _ _ wb Hrow.out (by omega))
        clear hown
        go_wp2_with fail
        refine Hm.out.mono ?_
        rintro e w7 ⟨rfl, hbc⟩
        have hR3 : Rd w7 (w5).heap.size t3 := hrb.kept (Kept.of_below hbc) (by omega)
        have hall3 : Below w.heap.size w w7 := hall2.trans (((hba.trans (hkb.below hba.size (fun k hk => by rcases hk with h | h; omega; have := hba.size; omega))).trans (hbc.mono (by have := hba.size; have := hkb.size; omega))).mono hall2.size)
        clear hra hba hgb hkb hrb hbc Hn Hm Hrow hcl
        have Herr3 := Lib.hid (err_same w7 _ _ hR3)
        have Hleft3 := Lib.hid (left_same w7 _ _ hR3)
        rcases Hcut3.out with ⟨hz3, hy3, hle3, hcm3⟩ | ⟨hz3, hy3⟩
        all_goals
          clear Hcut3
          go_wp2_with fail
          refine Herr3.out.mono ?_
          rintro e w0 ⟨rfl, rfl⟩
          go_wp2_with fail
          try ((with_reducible refine Hleft3.out.mono ?_); rintro e w0 ⟨rfl, rfl⟩; go_wp2_with fail)
          refine (awake_any _).mono ?_
          rintro e wz ⟨rfl, hbz⟩
          go_wp2
          go_ret
          exact ⟨rfl, hall3.trans (hbz.mono hall3.size)⟩
end Go.Proofs.Ytegdabdnbglhaaa
