/- Texts: made and read. -/
import Derived.Test.YtegdabdnbglhaaaAwake
import Derived.Test.YtegdabdnbglhaaaRoundTrip
import Derived.WalkKit
import Derived.WalkSpells
import Derived.WalkLawsBesides
import Derived.BigQuiet
set_option linter.unusedVariables false
namespace Go.Proofs.Ytegdabdnbglhaaa
open Go.RowKit

/-- A text's bytes. -/
def tb (l : List UInt8) : List UInt8 := nb l.length ++ l

theorem rText_tb (l t : List UInt8) (h : l.length ≤ 4611686018427387903) (most : Int) (hm : (l.length : Int) ≤ most) : rText ⟨tb l ++ t, 0⟩ most = (l, (⟨t, 0⟩ : RS)) := by
  have h1 : rNum ⟨tb l ++ t, 0⟩ = ((l.length : Int), (⟨l ++ t, 0⟩ : RS)) := by
    unfold tb; rw [List.append_assoc]; exact rNum_nb _ _ h
  have h2 : rCount ⟨tb l ++ t, 0⟩ most = ((l.length : Int), (⟨l ++ t, 0⟩ : RS)) := by
    unfold rCount; rw [h1, if_neg (by simpa using hm), if_neg (by simp)]
  unfold rText
  rw [h2, rRaw_all _ _ rfl (by simp)]
  simp

set_option maxHeartbeats 400000 in
theorem addText_ok (base : Nat) (v : Value) (l : List UInt8) (s : List UInt8) (w : World) (hl : l.length < 70368740000000) (hs : s.length ≤ 1048576)
    (hb : base ≤ w.heap.size) (hown : Own w base 5 v l) :
    Calls Try.prog 39 #[v, .string ⟨s.toArray⟩] w fun e w' => ∃ v', e = .returned (.tuple #[v', .int .i64 0]) ∧
      Own w' base 5 v' (l ++ tb s) ∧ Below base w w' := by
  have Hn := Lib.hid (addNum_any base s.length v l w (by omega) (by omega) hb hown)
  have hnl := (nb_length s.length).2
  have hsz : (l ++ nb s.length).length + (ByteArray.mk s.toArray).size < 70368744177664 := by
    rw [List.length_append, ByteArray.size_mk', List.size_toArray]; omega
  clear hown
  go_enter Try.func39, Try.ntmps39
  go_wp2_with fail
  refine Hn.out.mono ?_
  rintro e w1 ⟨v1, rfl, hown1, hb1⟩
  have Hown1 := Lib.hid hown1; clear hown1
  have hbw : base ≤ w1.heap.size := Nat.le_trans hb hb1.size
  go_wp2_with (at_builtin; refine append_text rfl _ _ 54 9 5 (by rfl) Try.underlying54 Try.underlying9 info_u8 base _ _ ⟨s.toArray⟩ (by rfl) Hown1.out (by rfl) hsz hbw ?_; intro v' w2 hown2 hb2)
  have Hown2 := Lib.hid hown2; clear hown2
  go_wp2
  go_ret2
  refine ⟨_, rfl, ?_, hb1.trans hb2⟩
  have := Hown2.out
  unfold tb
  rw [← List.append_assoc]
  exact this

theorem addText_no (v : Value) (s : List UInt8) (w : World) (hs : 1048576 < s.length) :
    Calls Try.prog 39 #[v, .string ⟨s.toArray⟩] w fun e w' => e = .returned (.tuple #[.slice none 0 0, .int .i64 4]) ∧ w' = w := by
  go_enter Try.func39, Try.ntmps39
  go_wp2
  go_ret2
  exact ⟨rfl, rfl⟩

theorem text_ok (s : List UInt8) (w : World) (hs : s.length ≤ 1048576) :
    Calls Try.prog 19 #[.string ⟨s.toArray⟩] w fun e w' => e = .returned (.tuple #[.string ⟨(tb s).toArray⟩, .int .i64 0]) ∧ Below w.heap.size w w' := by
  have Hn := Lib.hid (addText_ok w.heap.size _ [] s w (by simp) hs (Nat.le_refl _) (Own.nil _ _ _))
  go_enter Try.func19, Try.ntmps19
  go_wp2_with fail
  refine Hn.out.mono ?_
  rintro e w1 ⟨v1, rfl, hown, hb⟩
  go_wp2_with fail
  refine (made_any w.heap.size _ _ _ _ hown).mono ?_
  rintro e w2 ⟨rfl, rfl⟩
  go_wp2
  go_ret2
  exact ⟨rfl, hb⟩

theorem text_no (s : List UInt8) (w : World) (hs : 1048576 < s.length) :
    Calls Try.prog 19 #[.string ⟨s.toArray⟩] w fun e w' => e = .returned (.tuple #[.string ⟨#[]⟩, .int .i64 4]) ∧ w' = w := by
  have Hn := Lib.hid (addText_no (.slice none 0 0) s w hs)
  go_enter Try.func19, Try.ntmps19
  go_wp2_with fail
  refine Hn.out.mono ?_
  rintro e w1 ⟨rfl, rfl⟩
  go_wp2_with fail
  refine (made_any 0 _ [] _ _ (Own.nil _ _ _)).mono ?_
  rintro e w2 ⟨rfl, rfl⟩
  go_wp2
  go_ret2
  exact ⟨rfl, rfl⟩

theorem refBytes_ok (n : Nat) (w : World) (hn : n ≤ 4611686018427387903) :
    Calls Try.prog 40 #[.int .i64 n] w fun e w' => e = .returned (.string ⟨(nb n).toArray⟩) ∧ Below w.heap.size w w' := by
  have Hn := Lib.hid (refNum_ok n w hn)
  go_enter Try.func40, Try.ntmps40
  go_wp2_with fail
  refine Hn.out.mono ?_
  rintro e w1 ⟨rfl, hb⟩
  go_wp2
  go_ret
  exact ⟨rfl, hb⟩

theorem refText_ok (s : List UInt8) (w : World) (hs : s.length ≤ 1048576) :
    Calls Try.prog 20 #[.string ⟨s.toArray⟩] w fun e w' => e = .returned (.tuple #[.string ⟨(tb s).toArray⟩, .int .i64 0]) ∧ Below w.heap.size w w' := by
  have Hn := Lib.hid (refBytes_ok s.length w (by omega))
  have hnl := (nb_length s.length).2
  go_enter Try.func20, Try.ntmps20
  go_wp2_with fail
  refine Hn.out.mono ?_
  rintro e w1 ⟨rfl, hb⟩
  go_wp2
  go_ret2
  refine ⟨?_, hb⟩
  unfold tb
  rw [← ByteArray.mk_append_mk]
  rfl

theorem refText_no (s : List UInt8) (w : World) (hs : 1048576 < s.length) :
    Calls Try.prog 20 #[.string ⟨s.toArray⟩] w fun e w' => e = .returned (.tuple #[.string ⟨#[]⟩, .int .i64 4]) ∧ w' = w := by
  go_enter Try.func20, Try.ntmps20
  go_wp2
  go_ret2
  exact ⟨rfl, rfl⟩

theorem empty_app (t : List UInt8) : (⟨#[]⟩ : ByteArray) ++ ⟨t.toArray⟩ = ⟨t.toArray⟩ := by
  have := ByteArray.mk_append_mk [] t
  simpa using this
theorem str_self (l : List UInt8) : (l == l) = true := by simp

set_option maxHeartbeats 400000 in
theorem codeTexts_walk (s : List UInt8) (hs : s.length ≤ 140737488351232) (t : List UInt8) (ht : t.length ≤ 140737488351232) (w : World) :
    Calls Try.prog 5 #[.string ⟨s.toArray⟩, .string ⟨t.toArray⟩] w fun e w' => e = .returned (.bool true) ∧ Below w.heap.size w w' := by
  by_cases h : 1048576 < s.length
  · have H1 := fun w => Lib.hid (text_no s w h)
    have H2 := fun w => Lib.hid (refText_no s w h)
    clear h
    go_enter Try.func5, Try.ntmps5
    go_wp2_with fail
    refine (H1 _).out.mono ?_
    rintro e w1 ⟨rfl, rfl⟩
    go_wp2_with fail
    refine (H2 _).out.mono ?_
    rintro e w1 ⟨rfl, rfl⟩
    go_wp2_with fail
    rw [empty_app]
    refine (read_any t _).mono ?_
    rintro e w2 ⟨rfl, hr, hb⟩
    go_wp2_with fail
    refine (awake_any _).mono ?_
    rintro e w3 ⟨rfl, hb3⟩
    go_wp2
    go_ret
    exact ⟨rfl, below2 hb hb3⟩
  · have H1 := fun w => Lib.hid (text_ok s w (by omega))
    have H2 := fun w => Lib.hid (refText_ok s w (by omega))
    have Hrd := Lib.hid (rText_tb s t (by omega) s.length (by omega))
    have hlen : (tb s).length ≤ 1048586 := by
      have := (nb_length s.length).2
      unfold tb; rw [List.length_append]; omega
    have hself := str_self s
    generalize hbs : tb s = bs at H1 H2 Hrd hlen
    clear hbs
    go_enter Try.func5, Try.ntmps5
    go_wp2_with fail
    refine (H1 _).out.mono ?_
    rintro e w1 ⟨rfl, hb1⟩
    go_wp2_with fail
    refine (H2 _).out.mono ?_
    rintro e w2 ⟨rfl, hb2⟩
    go_wp2_with fail
    rw [ByteArray.mk_append_mk]
    refine (read_any (bs ++ t) _).mono ?_
    rintro e w3 ⟨rfl, hr, hb3⟩
    have Ht := Lib.hid (text_any _ _ _ (s.length : Int) hr (.inl rfl))
    rw [Hrd.out] at Ht
    go_wp2_with fail
    refine Ht.out.mono ?_
    rintro e w4 ⟨rfl, hr4, hk4⟩
    have Hl := Lib.hid (left_any _ _ _ hr4)
    have Hr := Lib.hid (err_any _ _ _ hr4)
    go_wp2_with fail
    refine Hl.out.mono ?_
    rintro e w5 ⟨rfl, rfl⟩
    go_wp2_with fail
    refine Hr.out.mono ?_
    rintro e w5 ⟨rfl, rfl⟩
    go_wp2_with fail
    refine (awake_any _).mono ?_
    rintro e w6 ⟨rfl, hb6⟩
    go_wp2
    go_ret
    refine ⟨rfl, below2 (below2 (below2 hb1 hb2) hb3 |>.trans (hk4.below ?_ ?_)) hb6⟩
    · exact (below2 (below2 hb1 hb2) hb3).size
    · rintro k rfl; exact (below2 hb1 hb2).size
end Go.Proofs.Ytegdabdnbglhaaa
