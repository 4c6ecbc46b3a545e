/- A number, a text and lists that are made, one behind the other, are read again: the walk of statement 1.5 CodeBack. (Written by gen/back.py.) -/
import Derived.Test.YtegdabdnbglhaaaSame
import Derived.WalkKit
import Derived.WalkSpells
import Derived.WalkLawsBesides
import Derived.BigQuiet
set_option linter.unusedVariables false
namespace Go.Proofs.Ytegdabdnbglhaaa
open Go.RowKit

theorem lsE_len {α : Type} (E : α → List UInt8 × Int) (h : ∀ x, (E x).1.length ≤ 1048586) : ∀ (xs : List α) (acc : List UInt8), (lsE E acc xs).1.length ≤ acc.length + xs.length * 1048586 := by
  intro xs
  induction xs with
  | nil => intro acc; simp [lsE]
  | cons x xs ih =>
    intro acc
    rw [lsE]
    split
    · have h1 := ih (acc ++ (E x).1)
      have h2 := h x
      rw [List.length_append] at h1
      rw [List.length_cons]
      omega
    · simp
theorem listE_len {α : Type} (E : α → List UInt8 × Int) (h : ∀ x, (E x).1.length ≤ 1048586) (xs : List α) : (listE E xs).1.length ≤ 10 + xs.length * 1048586 := by
  have := lsE_len E h xs (nb xs.length)
  have := (nb_length xs.length).2
  unfold listE; omega

theorem listE_len500 {α : Type} (E : α → List UInt8 × Int) (h : ∀ x, (E x).1.length ≤ 1048586) (xs : List α) (c : List UInt8) (hc : (listE E xs).1 = c) (hx : xs.length ≤ 500) : c.length ≤ 524293010 := by
  have h1 := listE_len E h xs
  rw [hc] at h1
  have h2 : xs.length * 1048586 ≤ 500 * 1048586 := Nat.mul_le_mul_right _ hx
  omega
theorem tb_len500 (s : List UInt8) (h : s.length ≤ 500) : (tb s).length ≤ 510 := by
  have := (nb_length s.length).2
  unfold tb; rw [List.length_append]; omega

/-- What the law reads, one behind the other. -/
theorem back_reads (n : Nat) (hn : n ≤ 4611686018427387903) (s : List UInt8) (hs : s.length ≤ 500) (xs : List Int) (hx : xs.length ≤ 500) (ys : List (List UInt8)) (hy : ys.length ≤ 500)
    (hall : ∀ y ∈ ys, y.length ≤ 500) (e1 : (listE intE xs).2 = 0) (e2 : (listE textE ys).2 = 0) (c d : List UInt8) (hc : (listE intE xs).1 = c) (hd : (listE textE ys).1 = d) :
    rNum ⟨nb n ++ (tb s ++ (c ++ d)), 0⟩ = ((n : Int), (⟨tb s ++ (c ++ d), 0⟩ : RS)) ∧ rText ⟨tb s ++ (c ++ d), 0⟩ 500 = (s, (⟨c ++ d, 0⟩ : RS)) ∧
    rParts rNum ⟨c ++ d, 0⟩ 500 = (xs, (⟨d, 0⟩ : RS)) ∧ rParts (rText · 500) ⟨d, 0⟩ 500 = (ys, (⟨[], 0⟩ : RS)) := by
  refine ⟨rNum_nb _ _ hn, rText_tb _ _ (by omega) _ (by omega), ?_, ?_⟩
  · have := parts_fore fore_int xs d 500 (fun _ _ => trivial) e1 (by omega) (by omega)
    rw [hc] at this; exact this
  · have := parts_fore (fore_text 500) ys [] 500 (fun y hy => by have := hall y hy; omega) e2 (by omega) (by omega)
    rw [hd, List.append_nil] at this; exact this

set_option maxRecDepth 100000 in
set_option maxHeartbeats 3200000 in
theorem codeBack_walk (n : Int) (hn0 : -9223372036854775808 ≤ n) (hn1 : n ≤ 9223372036854775807) (s : List UInt8) (hs : s.length ≤ 140737488351232) (v : Value) (xs : List Int) (u : Value) (ys : List (List UInt8)) (w : World)
    (hv : Row (Value.int .i64) (· < w.heap.size) w v xs) (hx : xs.length * 8 ≤ 140737488351232)
    (hu : Row (fun l => Value.string ⟨l.toArray⟩) (· < w.heap.size) w u ys) (hy : ys.length * 16 ≤ 140737488351232) :
    Calls Try.prog 8 #[.int .i64 n, .string ⟨s.toArray⟩, v, u] w fun e w' => e = .returned (.bool true) ∧ Below w.heap.size w w' := by
  have Hv := Lib.hid hv
  have Hu := Lib.hid hu
  have Huc := Lib.hid hu.cases
  obtain ⟨a, cap, rfl, _⟩ := hv
  by_cases hbig : 500 < xs.length ∨ 500 < ys.length ∨ 500 < s.length
  · clear Huc
    obtain ⟨b, cap2, rfl, _⟩ := hu
    have h3 : 500 < xs.length ∨ (¬ 500 < xs.length ∧ 500 < ys.length) ∨ (¬ 500 < xs.length ∧ ¬ 500 < ys.length ∧ 500 < s.length) := by omega
    clear hbig
    rcases h3 with g1 | ⟨g1, g2⟩ | ⟨g1, g2, g3⟩
    all_goals
      go_enter Try.func8, Try.ntmps8
      go_wp2_with fail
      refine (awake_any _).mono ?_
      rintro e w1 ⟨rfl, hb⟩
      go_wp2
      go_ret
      exact ⟨rfl, hb⟩
  · have hxl : xs.length ≤ 500 := by omega
    have hyl : ys.length ≤ 500 := by omega
    have hsl : s.length ≤ 500 := by omega
    clear hbig hu
    rcases Huc.out with ⟨rfl, ua, ucap, rfl⟩ | ⟨b, off, ucap, rfl, hbb, hc⟩
    · clear Huc
      go_enter Try.func8, Try.ntmps8
      go_wp2_with fail
      refine wp_loop_rounds 1 ?_
      rw [rounds_succ]
      have hb0 : Below w.heap.size w w := Below.refl _ _
      have hall : ∀ y ∈ ([] : List (List UInt8)), y.length ≤ 500 := by simp
      have Hall := Lib.hid hall; clear hall
      have hs0 := hb0.size
      by_cases hnr : n < 0 ∨ 4611686018427387903 < n
      · have H1 := Lib.hid (num_no n w hnr)
        clear hnr
        go_wp2_with fail
        refine H1.out.mono ?_
        rintro e w1 ⟨rfl, rfl⟩
        have H2 := Lib.hid (text_ok s w1 (by omega))
        go_wp2_with fail
        refine H2.out.mono ?_
        rintro e w2 ⟨rfl, hb2⟩
        have hb02 := hb0.trans (hb2.mono hs0)
        have H3 := Lib.hid (makeInts_any _ xs w2 (Hv.out.below hb02) (by omega))
        go_wp2_with fail
        refine H3.out.mono ?_
        rintro e w3 ⟨rfl, hb3⟩
        have hb03 := hb02.trans (hb3.mono hb02.size)
        have H4 := Lib.hid (makeStrs_any _ ([] : List (List UInt8)) w3 (Hu.out.below hb03) (by decide))
        go_wp2_with fail
        refine H4.out.mono ?_
        rintro e w4 ⟨rfl, hb4⟩
        have hb04 := hb03.trans (hb4.mono hb03.size)
        go_wp2_with fail
        refine (awake_any _).mono ?_
        rintro e w5 ⟨rfl, hb5⟩
        go_wp2
        go_ret
        exact ⟨rfl, hb04.trans (hb5.mono hb04.size)⟩
      · obtain ⟨m, rfl⟩ := Int.eq_ofNat_of_zero_le (show 0 ≤ n by omega)
        have hm : m ≤ 4611686018427387903 := by omega
        clear hnr
        have H1 := Lib.hid (num_ok m w hm)
        go_wp2_with fail
        refine H1.out.mono ?_
        rintro e w1 ⟨rfl, hb1⟩
        have hb01 := hb0.trans (hb1.mono hs0)
        have H2 := Lib.hid (text_ok s w1 (by omega))
        go_wp2_with fail
        refine H2.out.mono ?_
        rintro e w2 ⟨rfl, hb2⟩
        have hb02 := hb01.trans (hb2.mono hb01.size)
        have H3 := Lib.hid (makeInts_any _ xs w2 (Hv.out.below hb02) (by omega))
        go_wp2_with fail
        refine H3.out.mono ?_
        rintro e w3 ⟨rfl, hb3⟩
        have hb03 := hb02.trans (hb3.mono hb02.size)
        have H4 := Lib.hid (makeStrs_any _ ([] : List (List UInt8)) w3 (Hu.out.below hb03) (by decide))
        go_wp2_with fail
        refine H4.out.mono ?_
        rintro e w4 ⟨rfl, hb4⟩
        have hb04 := hb03.trans (hb4.mono hb03.size)
        clear H1 H2 H3 H4 hb1 hb2 hb3 hb4
        by_cases e1 : (listE intE xs).2 = 0
        · by_cases e2 : (listE textE ([] : List (List UInt8))).2 = 0
          · obtain ⟨c, hcc⟩ : ∃ c, (listE intE xs).1 = c := ⟨_, rfl⟩
            obtain ⟨d, hd⟩ : ∃ d, (listE textE ([] : List (List UInt8))).1 = d := ⟨_, rfl⟩
            have Hrd := Lib.hid (back_reads m hm s hsl xs hxl ([] : List (List UInt8)) (by decide) Hall.out e1 e2 c d hcc hd)
            have hcl : c.length ≤ 524293010 := listE_len500 intE intE_len xs c hcc hxl
            have hdl : d.length ≤ 524293010 := listE_len500 textE textE_len ([] : List (List UInt8)) d hd (by decide)
            have hal : (nb m).length ≤ 10 := (nb_length m).2
            have hbl : (tb s).length ≤ 510 := tb_len500 s hsl
            have z1 : ((listE intE xs).2 != 0) = false := by simp [e1]
            have z2 : ((listE textE ([] : List (List UInt8))).2 != 0) = false := by simp [e2]
            rw [hcc, hd]
            clear e1 e2 hcc hd hm
            have hself1 := int_self (m : Int)
            have hself2 := str_self s
            generalize hA : nb m = A at Hrd hal
            generalize hB : tb s = B at Hrd hbl
            clear hA hB
            go_wp2_with fail
            rw [ByteArray.mk_append_mk, ByteArray.mk_append_mk, ByteArray.mk_append_mk, List.append_assoc, List.append_assoc]
            refine (read_any (A ++ (B ++ (c ++ d))) w4).mono ?_
            rintro e w5 ⟨rfl, hr5, hb5⟩
            have hb05 := hb04.trans (hb5.mono hb04.size)
            have hg := hb04.size
            have K1 := Lib.hid (rnum_any _ _ _ hr5 (.inl rfl))
            rw [Hrd.out.1] at K1
            go_wp2_with fail
            refine K1.out.mono ?_
            rintro e w6 ⟨rfl, hr6, hk6⟩
            have hb06 := hb05.trans (hk6.below hb05.size (fun k hk => by omega))
            have K2 := Lib.hid (text_any _ _ _ 500 hr6 (.inl rfl))
            rw [Hrd.out.2.1] at K2
            go_wp2_with fail
            refine K2.out.mono ?_
            rintro e w7 ⟨rfl, hr7, hk7⟩
            have hb07 := hb06.trans (hk7.below hb06.size (fun k hk => by omega))
            have K3 := Lib.hid (rnums_any _ _ _ 500 hr7 (.inl rfl) (by show (c ++ d).length ≤ _; rw [List.length_append]; omega))
            rw [Hrd.out.2.2.1] at K3
            go_wp2_with fail
            refine K3.out.mono ?_
            rintro e w8 ⟨v8, rfl, hown8, hr8, hk8⟩
            have hs7 := hb07.size
            have hb08 := hb07.trans (hk8.below hb07.size (fun k hk => by rcases hk with h | h <;> omega))
            have Hq8 := Lib.hid (ints_same w8 v8 _ xs (Row.of_new hown8) (Hv.out.below hb08) (by omega))
            clear hown8
            go_wp2_with fail
            refine Hq8.out.mono ?_
            rintro e w9 ⟨rfl, hb9⟩
            have hb09 := hb08.trans (hb9.mono hb08.size)
            have hr9 : Rd w9 w4.heap.size ⟨d, 0⟩ := hr8.kept (Kept.of_below hb9) (by have := hr8.lt; omega)
            have K5 := Lib.hid (rtexts_any _ _ _ 500 500 hr9 (.inl rfl) (by show d.length ≤ _; omega))
            rw [Hrd.out.2.2.2] at K5
            go_wp2_with fail
            refine K5.out.mono ?_
            rintro e w10 ⟨v10, rfl, hown10, hr10, hk10⟩
            have hs9 := hb09.size
            have hb010 := hb09.trans (hk10.below hb09.size (fun k hk => by rcases hk with h | h <;> omega))
            have Hq10 := Lib.hid (texts_same w10 v10 _ ([] : List (List UInt8)) (Row.of_new hown10) (Hu.out.below hb010) (by decide))
            clear hown10
            go_wp2_with fail
            refine Hq10.out.mono ?_
            rintro e w11 ⟨rfl, hb11⟩
            have hb011 := hb010.trans (hb11.mono hb010.size)
            have hr11 : Rd w11 w4.heap.size ⟨[], 0⟩ := hr10.kept (Kept.of_below hb11) (by have := hr10.lt; omega)
            have K6 := Lib.hid (end_any _ _ _ hr11)
            go_wp2_with fail
            refine K6.out.mono ?_
            rintro e w12 ⟨rfl, hr12, hk12⟩
            have hb012 := hb011.trans (hk12.below hb011.size (fun k hk => by omega))
            go_wp2_with fail
            refine (awake_any _).mono ?_
            rintro e w13 ⟨rfl, hb13⟩
            go_wp2
            go_ret
            exact ⟨rfl, hb012.trans (hb13.mono hb012.size)⟩
          · have z1 : ((listE intE xs).2 != 0) = false := by simp [e1]
            have z2 : ((listE textE ([] : List (List UInt8))).2 != 0) = true := by simp [e2]
            clear e1 e2
            go_wp2_with fail
            refine (awake_any _).mono ?_
            rintro e w5 ⟨rfl, hb5⟩
            go_wp2
            go_ret
            exact ⟨rfl, hb04.trans (hb5.mono hb04.size)⟩
        · have z1 : ((listE intE xs).2 != 0) = true := by simp [e1]
          clear e1
          go_wp2_with fail
          refine (awake_any _).mono ?_
          rintro e w5 ⟨rfl, hb5⟩
          go_wp2
          go_ret
          exact ⟨rfl, hb04.trans (hb5.mono hb04.size)⟩

    · clear Huc
      go_enter Try.func8, Try.ntmps8
      go_wp2_with fail
      go_loopw [9] (fun i wr => ∃ k : Nat, k ≤ ys.length ∧ i = .int .i64 k ∧ Below w.heap.size w wr ∧ ∀ j (h : j < ys.length), j < k → ys[j].length ≤ 500)
        (fun i _ => ys.length - (intOf i).toNat)
      case atStart => exact ⟨0, by omega, rfl, Below.refl _ _, fun j _ h => absurd h (by omega)⟩
      case round =>
        obtain ⟨k, hk, rfl, hb0, hfor⟩ := hrel
        have Hfor := Lib.hid hfor; clear hfor
        by_cases hlt : k < ys.length
        · have hcell := (hb0.cell (p := ⟨b, off + k, none⟩) hbb).trans (hc k hlt)
          obtain ⟨y, hyk⟩ : ∃ y, ys[k] = y := ⟨_, rfl⟩
          rw [hyk] at hcell
          have Hyk := Lib.hid hyk; clear hyk
          by_cases h5 : 500 < y.length
          · go_wp2_with fail
            refine (awake_any _).mono ?_
            rintro e w1 ⟨rfl, hb⟩
            go_wp2
            go_ret
            exact ⟨rfl, hb0.trans (hb.mono hb0.size)⟩
          · go_wp2_with fail
            go_roundw
            case rel =>
              refine ⟨k + 1, by omega, by go_num, hb0, fun j hj hjk => ?_⟩
              by_cases hj' : j < k
              · exact Hfor.out j hj hj'
              · obtain rfl : j = k := by omega
                rw [Hyk.out]; omega
            case measure => simp [intOf]; omega
        · have hall : ∀ y ∈ ys, y.length ≤ 500 := by
            intro y hy
            obtain ⟨j, hj, rfl⟩ := List.mem_iff_getElem.1 hy
            exact Hfor.out j hj (by omega)
          clear Hfor
          have Hall := Lib.hid hall; clear hall
          have hs0 := hb0.size
          by_cases hnr : n < 0 ∨ 4611686018427387903 < n
          · have H1 := Lib.hid (num_no n wr hnr)
            clear hnr
            go_wp2_with fail
            refine H1.out.mono ?_
            rintro e w1 ⟨rfl, rfl⟩
            have H2 := Lib.hid (text_ok s w1 (by omega))
            go_wp2_with fail
            refine H2.out.mono ?_
            rintro e w2 ⟨rfl, hb2⟩
            have hb02 := hb0.trans (hb2.mono hs0)
            have H3 := Lib.hid (makeInts_any _ xs w2 (Hv.out.below hb02) (by omega))
            go_wp2_with fail
            refine H3.out.mono ?_
            rintro e w3 ⟨rfl, hb3⟩
            have hb03 := hb02.trans (hb3.mono hb02.size)
            have H4 := Lib.hid (makeStrs_any _ ys w3 (Hu.out.below hb03) (by omega))
            go_wp2_with fail
            refine H4.out.mono ?_
            rintro e w4 ⟨rfl, hb4⟩
            have hb04 := hb03.trans (hb4.mono hb03.size)
            go_wp2_with fail
            refine (awake_any _).mono ?_
            rintro e w5 ⟨rfl, hb5⟩
            go_wp2
            go_ret
            exact ⟨rfl, hb04.trans (hb5.mono hb04.size)⟩
          · obtain ⟨m, rfl⟩ := Int.eq_ofNat_of_zero_le (show 0 ≤ n by omega)
            have hm : m ≤ 4611686018427387903 := by omega
            clear hnr
            have H1 := Lib.hid (num_ok m wr hm)
            go_wp2_with fail
            refine H1.out.mono ?_
            rintro e w1 ⟨rfl, hb1⟩
            have hb01 := hb0.trans (hb1.mono hs0)
            have H2 := Lib.hid (text_ok s w1 (by omega))
            go_wp2_with fail
            refine H2.out.mono ?_
            rintro e w2 ⟨rfl, hb2⟩
            have hb02 := hb01.trans (hb2.mono hb01.size)
            have H3 := Lib.hid (makeInts_any _ xs w2 (Hv.out.below hb02) (by omega))
            go_wp2_with fail
            refine H3.out.mono ?_
            rintro e w3 ⟨rfl, hb3⟩
            have hb03 := hb02.trans (hb3.mono hb02.size)
            have H4 := Lib.hid (makeStrs_any _ ys w3 (Hu.out.below hb03) (by omega))
            go_wp2_with fail
            refine H4.out.mono ?_
            rintro e w4 ⟨rfl, hb4⟩
            have hb04 := hb03.trans (hb4.mono hb03.size)
            clear H1 H2 H3 H4 hb1 hb2 hb3 hb4
            by_cases e1 : (listE intE xs).2 = 0
            · by_cases e2 : (listE textE ys).2 = 0
              · obtain ⟨c, hcc⟩ : ∃ c, (listE intE xs).1 = c := ⟨_, rfl⟩
                obtain ⟨d, hd⟩ : ∃ d, (listE textE ys).1 = d := ⟨_, rfl⟩
                have Hrd := Lib.hid (back_reads m hm s hsl xs hxl ys hyl Hall.out e1 e2 c d hcc hd)
                have hcl : c.length ≤ 524293010 := listE_len500 intE intE_len xs c hcc hxl
                have hdl : d.length ≤ 524293010 := listE_len500 textE textE_len ys d hd hyl
                have hal : (nb m).length ≤ 10 := (nb_length m).2
                have hbl : (tb s).length ≤ 510 := tb_len500 s hsl
                have z1 : ((listE intE xs).2 != 0) = false := by simp [e1]
                have z2 : ((listE textE ys).2 != 0) = false := by simp [e2]
                rw [hcc, hd]
                clear e1 e2 hcc hd hm
                have hself1 := int_self (m : Int)
                have hself2 := str_self s
                generalize hA : nb m = A at Hrd hal
                generalize hB : tb s = B at Hrd hbl
                clear hA hB
                go_wp2_with fail
                rw [ByteArray.mk_append_mk, ByteArray.mk_append_mk, ByteArray.mk_append_mk, List.append_assoc, List.append_assoc]
                refine (read_any (A ++ (B ++ (c ++ d))) w4).mono ?_
                rintro e w5 ⟨rfl, hr5, hb5⟩
                have hb05 := hb04.trans (hb5.mono hb04.size)
                have hg := hb04.size
                have K1 := Lib.hid (rnum_any _ _ _ hr5 (.inl rfl))
                rw [Hrd.out.1] at K1
                go_wp2_with fail
                refine K1.out.mono ?_
                rintro e w6 ⟨rfl, hr6, hk6⟩
                have hb06 := hb05.trans (hk6.below hb05.size (fun k hk => by omega))
                have K2 := Lib.hid (text_any _ _ _ 500 hr6 (.inl rfl))
                rw [Hrd.out.2.1] at K2
                go_wp2_with fail
                refine K2.out.mono ?_
                rintro e w7 ⟨rfl, hr7, hk7⟩
                have hb07 := hb06.trans (hk7.below hb06.size (fun k hk => by omega))
                have K3 := Lib.hid (rnums_any _ _ _ 500 hr7 (.inl rfl) (by show (c ++ d).length ≤ _; rw [List.length_append]; omega))
                rw [Hrd.out.2.2.1] at K3
                go_wp2_with fail
                refine K3.out.mono ?_
                rintro e w8 ⟨v8, rfl, hown8, hr8, hk8⟩
                have hs7 := hb07.size
                have hb08 := hb07.trans (hk8.below hb07.size (fun k hk => by rcases hk with h | h <;> omega))
                have Hq8 := Lib.hid (ints_same w8 v8 _ xs (Row.of_new hown8) (Hv.out.below hb08) (by omega))
                clear hown8
                go_wp2_with fail
                refine Hq8.out.mono ?_
                rintro e w9 ⟨rfl, hb9⟩
                have hb09 := hb08.trans (hb9.mono hb08.size)
                have hr9 : Rd w9 w4.heap.size ⟨d, 0⟩ := hr8.kept (Kept.of_below hb9) (by have := hr8.lt; omega)
                have K5 := Lib.hid (rtexts_any _ _ _ 500 500 hr9 (.inl rfl) (by show d.length ≤ _; omega))
                rw [Hrd.out.2.2.2] at K5
                go_wp2_with fail
                refine K5.out.mono ?_
                rintro e w10 ⟨v10, rfl, hown10, hr10, hk10⟩
                have hs9 := hb09.size
                have hb010 := hb09.trans (hk10.below hb09.size (fun k hk => by rcases hk with h | h <;> omega))
                have Hq10 := Lib.hid (texts_same w10 v10 _ ys (Row.of_new hown10) (Hu.out.below hb010) (by omega))
                clear hown10
                go_wp2_with fail
                refine Hq10.out.mono ?_
                rintro e w11 ⟨rfl, hb11⟩
                have hb011 := hb010.trans (hb11.mono hb010.size)
                have hr11 : Rd w11 w4.heap.size ⟨[], 0⟩ := hr10.kept (Kept.of_below hb11) (by have := hr10.lt; omega)
                have K6 := Lib.hid (end_any _ _ _ hr11)
                go_wp2_with fail
                refine K6.out.mono ?_
                rintro e w12 ⟨rfl, hr12, hk12⟩
                have hb012 := hb011.trans (hk12.below hb011.size (fun k hk => by omega))
                go_wp2_with fail
                refine (awake_any _).mono ?_
                rintro e w13 ⟨rfl, hb13⟩
                go_wp2
                go_ret
                exact ⟨rfl, hb012.trans (hb13.mono hb012.size)⟩
              · have z1 : ((listE intE xs).2 != 0) = false := by simp [e1]
                have z2 : ((listE textE ys).2 != 0) = true := by simp [e2]
                clear e1 e2
                go_wp2_with fail
                refine (awake_any _).mono ?_
                rintro e w5 ⟨rfl, hb5⟩
                go_wp2
                go_ret
                exact ⟨rfl, hb04.trans (hb5.mono hb04.size)⟩
            · have z1 : ((listE intE xs).2 != 0) = true := by simp [e1]
              clear e1
              go_wp2_with fail
              refine (awake_any _).mono ?_
              rintro e w5 ⟨rfl, hb5⟩
              go_wp2
              go_ret
              exact ⟨rfl, hb04.trans (hb5.mono hb04.size)⟩
end Go.Proofs.Ytegdabdnbglhaaa
