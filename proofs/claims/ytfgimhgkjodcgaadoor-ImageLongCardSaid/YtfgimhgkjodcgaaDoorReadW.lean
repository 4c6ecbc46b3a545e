/- Walks of package code's reader: its methods do to a reader's block what the plain mathematics says. -/
import Derived.Test.YtfgimhgkjodcgaaDoorGen
import Derived.Test.YtfgimhgkjodcgaaDoorReadMath
import Derived.Test.YtfgimhgkjodcgaaDoorRows
import Derived.BigQuiet
import Derived.WalkKit
import Derived.WalkLawsBesides
import Derived.WalkSpells
set_option linter.unusedVariables false
namespace Go.Proofs.YtfgimhgkjodcgaaDoor
open Go.RowKit

/-- Block g is a reader in state s. -/
def Rd (w : World) (g : Nat) (s : RS) : Prop := w.heap[g]? = some (.cells #[.string ⟨s.l.toArray⟩, .int .i64 s.e] 94 (0, 0))

theorem Rd.c0 {w : World} {g : Nat} {s : RS} (h : Rd w g s) : w.cell? ⟨g, 0, none⟩ = some (.string ⟨s.l.toArray⟩) := by
  rw [cell_of_row w g 0 _ _ (0, 0) h]; rfl
theorem Rd.c1 {w : World} {g : Nat} {s : RS} (h : Rd w g s) : w.cell? ⟨g, 1, none⟩ = some (.int .i64 s.e) := by
  rw [cell_of_row w g 1 _ _ (0, 0) h]; rfl
theorem Rd.f {w : World} {g : Nat} {s : RS} (h : Rd w g s) (j : Nat) : w.frozen? ⟨g, j, none⟩ = false := by
  unfold Rd at h
  simp [World.frozen?, h]
theorem Rd.lt {w : World} {g : Nat} {s : RS} (h : Rd w g s) : g < w.heap.size := (Array.getElem?_eq_some_iff.1 h).1
theorem Rd.kept {M : Nat → Prop} {w w' : World} {g : Nat} {s : RS} (h : Rd w g s) (hk : Kept M w w') (hm : ¬ M g) : Rd w' g s := hk.old h hm
theorem Rd.set0 {w : World} {g : Nat} {s : RS} (h : Rd w g s) (l : List UInt8) : Rd (w.setCell ⟨g, 0, none⟩ (.string ⟨l.toArray⟩)) g ⟨l, s.e⟩ := by
  unfold Rd at *
  simp [World.setCell, Array.getElem?_modify, h]
theorem Rd.set1 {w : World} {g : Nat} {s : RS} (h : Rd w g s) (e : Int) : Rd (w.setCell ⟨g, 1, none⟩ (.int .i64 e)) g ⟨s.l, e⟩ := by
  unfold Rd at *
  simp [World.setCell, Array.getElem?_modify, h]

abbrev ptr (g : Nat) : Value := .pointer (some ⟨g, 0, none⟩)

theorem err_any (w : World) (g : Nat) (s : RS) (h : Rd w g s) :
    Calls Tryd.prog 61 #[ptr g] w fun e w' => e = .returned (.int .i64 s.e) ∧ w' = w := by
  have h0 := h.c1
  go_enter Tryd.func61, Tryd.ntmps61
  go_wp2
  go_ret
  exact ⟨rfl, rfl⟩

theorem left_any (w : World) (g : Nat) (s : RS) (h : Rd w g s) :
    Calls Tryd.prog 64 #[ptr g] w fun e w' => e = .returned (.int .i64 s.l.length) ∧ w' = w := by
  have h0 := h.c0
  go_enter Tryd.func64, Tryd.ntmps64
  go_wp2
  go_ret
  exact ⟨rfl, rfl⟩

theorem fail_any (w : World) (g : Nat) (s : RS) (n : Int) (h : Rd w g s) :
    Calls Tryd.prog 63 #[ptr g, .int .i64 n] w fun e w' => e = .returned (.tuple #[]) ∧ Rd w' g (rFail s n) ∧ Kept (· = g) w w' := by
  have h0 := h.c0
  have h1 := h.c1
  have f0 := h.f 0
  have f1 := h.f 1
  have hr := err_any w g s h
  by_cases he : s.e = 0
  · have hb : (s.e == 0) = true := by simp [he]
    have Hs : rFail s n = ⟨[], n⟩ := by simp [rFail, he]
    have HH := Lib.hid Hs
    have HR := Lib.hid hr
    have HE := Lib.hid he
    clear Hs hr he
    go_enter Tryd.func63, Tryd.ntmps63
    go_wp2_with fail
    refine HR.out.mono ?_
    rintro e w1 ⟨rfl, rfl⟩
    go_wp2
    go_end0
    rw [HH.out]
    exact ⟨rfl, (h.set0 []).set1 n, (((Kept.refl (· = g) _).setCell (p := ⟨g, 0, none⟩) rfl _).setCell (p := ⟨g, 1, none⟩) rfl _)⟩
  · have hb : (s.e == 0) = false := by simp [he]
    have Hs : rFail s n = s := by simp [rFail, he]
    have HH := Lib.hid Hs
    have HR := Lib.hid hr
    have HE := Lib.hid he
    clear Hs hr he
    go_enter Tryd.func63, Tryd.ntmps63
    go_wp2_with fail
    refine HR.out.mono ?_
    rintro e w1 ⟨rfl, rfl⟩
    go_wp2
    go_end0
    rw [HH.out]
    exact ⟨rfl, h, Kept.refl _ _⟩

/-- What a method of a reader does: its answer is v, the reader's state then s, nothing else has turned. -/
def Does (w : World) (g : Nat) (v : Value) (s : RS) (e : Ending) (w' : World) : Prop := e = .returned v ∧ Rd w' g s ∧ Kept (· = g) w w'

set_option maxHeartbeats 400000 in
theorem raw_any (w : World) (g : Nat) (s : RS) (n : Int) (h : Rd w g s) (hok : s.ok) :
    Calls Tryd.prog 37 #[ptr g, .int .i64 n] w (Does w g (.string ⟨(rRaw s n).1.toArray⟩) (rRaw s n).2) := by
  have h0 := h.c0
  have h1 := h.c1
  have f0 := h.f 0
  have f1 := h.f 1
  have Herr := Lib.hid (err_any w g s h)
  have Hleft := Lib.hid (left_any w g s h)
  by_cases hn : n < 0
  · have Hf := Lib.hid (fail_any w g s 1 h)
    have Hs := Lib.hid (rRaw_neg s n hn)
    have hb := rFail_err s 1 (by decide)
    go_enter Tryd.func37, Tryd.ntmps37
    go_wp2_with fail
    refine Hf.out.mono ?_
    rintro e w1 ⟨rfl, hr1, hk1⟩
    have Herr1 := Lib.hid (err_any w1 g _ hr1)
    go_wp2_with fail
    refine Herr1.out.mono ?_
    rintro e w2 ⟨rfl, rfl⟩
    go_wp2
    go_ret
    rw [Hs.out]
    exact ⟨rfl, hr1, hk1⟩
  · by_cases hl : (s.l.length : Int) < n
    · have Hf := Lib.hid (fail_any w g s 3 h)
      have Hs := Lib.hid (rRaw_long s n hn hl)
      have hb := rFail_err s 3 (by decide)
      go_enter Tryd.func37, Tryd.ntmps37
      go_wp2_with fail
      refine Hleft.out.mono ?_
      rintro e w1 ⟨rfl, rfl⟩
      go_wp2_with fail
      refine Hf.out.mono ?_
      rintro e w1 ⟨rfl, hr1, hk1⟩
      have Herr1 := Lib.hid (err_any w1 g _ hr1)
      go_wp2_with fail
      refine Herr1.out.mono ?_
      rintro e w2 ⟨rfl, rfl⟩
      go_wp2
      go_ret
      rw [Hs.out]
      exact ⟨rfl, hr1, hk1⟩
    · by_cases he : s.e = 0
      · obtain ⟨m, rfl⟩ := Int.eq_ofNat_of_zero_le (show 0 ≤ n by omega)
        have Hs := Lib.hid (rRaw_all s m he (by omega))
        have hb : (s.e != 0) = false := by simp [he]
        have He := Lib.hid he
        clear he
        have hml : m ≤ s.l.length := by omega
        go_enter Tryd.func37, Tryd.ntmps37
        go_wp2_with fail
        refine Hleft.out.mono ?_
        rintro e w1 ⟨rfl, rfl⟩
        go_wp2_with fail
        refine Herr.out.mono ?_
        rintro e w2 ⟨rfl, rfl⟩
        go_wp2
        go_ret
        rw [Hs.out]
        refine ⟨by rw [take_toArray]; rfl, ?_, (Kept.refl (· = g) _).setCell (p := ⟨g, 0, none⟩) rfl _⟩
        have hx := h.set0 (s.l.drop m)
        rw [He.out] at hx
        rw [drop_toArray _ _ _ (by simp)]
        exact hx
      · have Hs := Lib.hid (rRaw_err s n he)
        have hb : (s.e != 0) = true := by simp [he]
        clear he
        go_enter Tryd.func37, Tryd.ntmps37
        go_wp2_with fail
        refine Hleft.out.mono ?_
        rintro e w1 ⟨rfl, rfl⟩
        go_wp2_with fail
        refine Herr.out.mono ?_
        rintro e w2 ⟨rfl, rfl⟩
        go_wp2
        go_ret
        rw [Hs.out]
        exact ⟨rfl, h, Kept.refl _ _⟩

theorem wrap64_u8 (c : UInt8) : wrap64 (c.toNat : Int) = (c.toNat : Int) := by
  have := c.toNat_lt
  unfold wrap64
  omega
theorem ret_int {k : IntKind} {a b : Int} (h : a = b) : Ending.returned (.int k a) = .returned (.int k b) := by rw [h]

theorem byte_any (w : World) (g : Nat) (s : RS) (h : Rd w g s) (hok : s.ok) :
    Calls Tryd.prog 85 #[ptr g] w (Does w g (.int .i64 (rByte s).1) (rByte s).2) := by
  have Hr := Lib.hid (raw_any w g s 1 h hok)
  by_cases he : s.e = 0 ∧ s.l ≠ []
  · obtain ⟨he, hl⟩ := he
    obtain ⟨c, t, hct⟩ : ∃ c t, s.l = c :: t := by
      cases hs : s.l with
      | nil => exact absurd hs hl
      | cons c t => exact ⟨c, t, rfl⟩
    have e1 : rRaw s 1 = ([c], ⟨t, 0⟩) := by
      have := rRaw_all s 1 he (by rw [hct]; simp)
      simpa [hct] using this
    have e2 : rByte s = ((c.toNat : Int), (⟨t, 0⟩ : RS)) := by unfold rByte; rw [hct]
    have Hs := Lib.hid e2
    rw [e1] at Hr
    clear e1 e2 he hl hct
    go_enter Tryd.func85, Tryd.ntmps85
    go_wp2_with fail
    refine Hr.out.mono ?_
    rintro e w1 ⟨rfl, hr1, hk1⟩
    go_wp2
    go_ret
    rw [Hs.out]
    refine ⟨ret_int ?_, hr1, hk1⟩
    exact wrap64_u8 c
  · have e1 : rRaw s 1 = ([], (rByte s).2) ∧ (rByte s).1 = 0 := by
      by_cases h0 : s.e = 0
      · have hl : s.l = [] := by
          by_cases hn : s.l = []
          · exact hn
          · exact absurd ⟨h0, hn⟩ he
        have := rRaw_long s 1 (by decide) (by rw [hl]; decide)
        rw [this]
        unfold rByte; rw [hl]; exact ⟨rfl, rfl⟩
      · have hl : s.l = [] := by
          rcases hok with h | h
          · exact absurd h h0
          · exact h
        rw [rRaw_err s 1 h0]
        unfold rByte; rw [hl]; simp [rFail, h0]
    obtain ⟨e1, e2⟩ := e1
    have Hs := Lib.hid e2
    rw [e1] at Hr
    clear e1 e2 he
    go_enter Tryd.func85, Tryd.ntmps85
    go_wp2_with fail
    refine Hr.out.mono ?_
    rintro e w1 ⟨rfl, hr1, hk1⟩
    go_wp2
    go_ret
    refine ⟨ret_int Hs.out.symm, hr1, hk1⟩
end Go.Proofs.YtfgimhgkjodcgaaDoor
