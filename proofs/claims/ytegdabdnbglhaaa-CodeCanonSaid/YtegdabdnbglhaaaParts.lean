/- Lists of numbers and of texts: read. (Written by gen/parts.py.) -/
import Derived.Test.YtegdabdnbglhaaaLists
import Derived.Test.YtegdabdnbglhaaaFrame
import Derived.WalkKit
import Derived.WalkSpells
import Derived.WalkLawsBesides
import Derived.BigQuiet
set_option linter.unusedVariables false
namespace Go.Proofs.Ytegdabdnbglhaaa
open Go.RowKit

/-! ### Plain mathematics -/
theorem rNum_of_err (s : RS) (h : s.ok) (he : s.e ≠ 0) : rNum s = (0, s) := by
  have hl : s.l = [] := by
    rcases h with h | h
    · exact absurd h he
    · exact h
  have b : rByte s = (0, s) := by unfold rByte; rw [hl]; simp [rFail, he]
  have b1 : (rByte s).1 = ((0 : Nat) : Int) := by rw [b]; rfl
  have b2 : (rByte s).2 = s := by rw [b]
  exact rNumF_err b1 b2 (by rw [← Bool.not_eq_true, rBad_iff]; omega) he
theorem rNum_e (s : RS) (h : s.ok) (he : (rNum s).2.e = 0) : s.e = 0 := by
  by_cases h0 : s.e = 0
  · exact h0
  · rw [rNum_of_err s h h0] at he; exact he
theorem rNum_split (s : RS) (h : s.ok) (he : (rNum s).2.e = 0) : ∃ q : Nat, q ≤ 4611686018427387903 ∧ (rNum s).1 = (q : Int) ∧ s.l = nb q ++ (rNum s).2.l := by
  have h0 := rNum_e s h he
  obtain ⟨l, e⟩ := s
  simp only at h0
  subst h0
  exact rNum_back l he
theorem rCount_cases (s : RS) (most : Int) (h : s.ok) :
    ((rCount s most).1 = 0 ∧ (rCount s most).2.e ≠ 0) ∨ ((rCount s most).2.e = 0 ∧ rCount s most = rNum s ∧ (rNum s).1 ≤ most) := by
  unfold rCount
  split
  · exact .inl ⟨rfl, rFail_e _ _ (by decide)⟩
  · split
    · rename_i h2; exact .inl ⟨rfl, h2⟩
    · rename_i h1 h2
      exact .inr ⟨by simpa using h2, rfl, by omega⟩
theorem rCount_nat (s : RS) (most : Int) (h : s.ok) : ∃ c : Nat, (rCount s most).1 = (c : Int) ∧ c ≤ 4611686018427387903 ∧ ((rCount s most).2.e ≠ 0 → c = 0) := by
  rcases rCount_cases s most h with ⟨h1, h2⟩ | ⟨h1, h2, h3⟩
  · exact ⟨0, h1, by decide, fun _ => rfl⟩
  · rw [h2] at h1 ⊢
    obtain ⟨q, hq, hv, _⟩ := rNum_split s h h1
    exact ⟨q, hv, hq, fun h => absurd h1 h⟩
theorem rNum_less (s : RS) (h : s.ok) (he : (rNum s).2.e = 0) : (rNum s).2.l.length + 1 ≤ s.l.length := by
  obtain ⟨q, _, _, hs⟩ := rNum_split s h he
  have := (nb_length q).1
  rw [hs, List.length_append]
  omega
theorem rCount_less (s : RS) (most : Int) (h : s.ok) (he : (rCount s most).2.e = 0) : (rCount s most).2.l.length + 1 ≤ s.l.length := by
  rcases rCount_cases s most h with ⟨h1, h2⟩ | ⟨h1, h2, h3⟩
  · exact absurd he h2
  · rw [h2] at he ⊢; exact rNum_less s h he
theorem rRaw_e (s : RS) (n : Int) (he : (rRaw s n).2.e = 0) : s.e = 0 ∧ 0 ≤ n ∧ n ≤ s.l.length ∧ rRaw s n = (s.l.take n.toNat, ⟨s.l.drop n.toNat, 0⟩) := by
  unfold rRaw at he ⊢
  by_cases h0 : s.e = 0
  · rw [if_neg (by simp [h0])] at he ⊢
    by_cases h1 : n < 0
    · rw [if_pos h1] at he; exact absurd he (by decide)
    · rw [if_neg h1] at he ⊢
      by_cases h2 : (s.l.length : Int) < n
      · rw [if_pos h2] at he; exact absurd he (by decide)
      · rw [if_neg h2]; exact ⟨h0, by omega, by omega, rfl⟩
  · rw [if_pos h0] at he; exact absurd he h0
theorem rText_less (s : RS) (most : Int) (h : s.ok) (he : (rText s most).2.e = 0) : (rText s most).2.l.length + 1 ≤ s.l.length := by
  unfold rText at he ⊢
  obtain ⟨h0, _, _, hr⟩ := rRaw_e _ _ he
  have := rCount_less s most h h0
  rw [hr]
  simp only [List.length_drop]
  omega

def rLoop {α : Type} (next : RS → α × RS) : Nat → List α → RS → List α × RS
  | 0, acc, s => (acc, s)
  | k + 1, acc, s => if (next s).2.e = 0 then rLoop next k (acc ++ [(next s).1]) (next s).2 else ([], (next s).2)
def rParts {α : Type} (next : RS → α × RS) (s : RS) (most : Int) : List α × RS := rLoop next (rCount s most).1.toNat [] (rCount s most).2
theorem rLoop_ok {α : Type} (next : RS → α × RS) (hn : ∀ s, s.ok → (next s).2.ok) (k : Nat) : ∀ (acc : List α) (s : RS), s.ok → (rLoop next k acc s).2.ok := by
  induction k with
  | zero => intro acc s h; exact h
  | succ k ih =>
    intro acc s h
    unfold rLoop; split
    · exact ih _ _ (hn s h)
    · exact hn s h
theorem rParts_ok {α : Type} (next : RS → α × RS) (hn : ∀ s, s.ok → (next s).2.ok) (s : RS) (most : Int) (h : s.ok) : (rParts next s most).2.ok := rLoop_ok next hn _ _ _ (rCount_ok s most h)

/-! ### Lists of the call's own -/
def OwnL {α : Type} (enc : α → Value) (w : World) (base : Nat) (e : TypeId) (v : Value) (xs : List α) : Prop := w.ownsRow base e 1 v xs.length (xs.map enc)
theorem OwnL.nil {α : Type} (enc : α → Value) (w : World) (base : Nat) (e : TypeId) : OwnL enc w base e (.slice none 0 0) [] := World.ownsRow_nil w base e 1
theorem OwnL.kept {α : Type} {enc : α → Value} {w w' : World} {base : Nat} {e : TypeId} {v : Value} {xs : List α} {M : Nat → Prop} (h : OwnL enc w base e v xs) (hk : Kept M w w') (hm : ∀ k, base ≤ k → ¬ M k) : OwnL enc w' base e v xs :=
  Kept.own h hk hm
theorem OwnL.row {α : Type} {enc : α → Value} {w : World} {base : Nat} {e : TypeId} {v : Value} {xs : List α} (h : OwnL enc w base e v xs) : Row enc (base ≤ ·) w v xs := by
  rcases h.2 with ⟨rfl, hn⟩ | ⟨g, cap, cur, rfl, hb, hg, _⟩
  · have : xs = [] := List.eq_nil_of_length_eq_zero hn
    subst this
    exact Row.nil _ _ _
  · refine ⟨some ⟨g, 0, none⟩, cap, rfl, fun i hi => ⟨g, 0, rfl, hb, ?_⟩⟩
    have := World.ownsRow.cells h (g := g) rfl i (enc xs[i]) (by simp [hi])
    have e1 : (⟨g, 0, none⟩ : Addr).add i = ⟨g, 0 + i, none⟩ := by unfold Addr.add; split <;> simp_all
    rw [← e1]
    exact this
theorem OwnL.mono {α : Type} {enc : α → Value} {w : World} {base base' : Nat} {e : TypeId} {v : Value} {xs : List α} (h : OwnL enc w base e v xs) (hb : base' ≤ base) : OwnL enc w base' e v xs := by
  refine ⟨h.1, ?_⟩
  rcases h.2 with hn | ⟨g, cap, cur, rfl, hg, rest⟩
  · exact .inl hn
  · exact .inr ⟨g, cap, cur, rfl, Nat.le_trans hb hg, rest⟩

section
variable {P : Program}
theorem append_elem {α : Type} {enc : α → Value} {w : World} {ops : Array Oper} {rest : List Oper} {o : Oper} {a : Act} {Q : Exit → Act → World → Prop} (hgd : o.guard = none) (s x : Operand) (t e : TypeId) (z : Value) (bytes : Nat)
    (ho : o.op = .call { callee := .builtin .append, args := #[s, x], argTypes := #[t, t] }) (ht : P.underlying t = some (.slice e))
    (hinfo : (P.info? e).map (fun i => (i.zero, i.size, i.bytes)) = some (some z, 1, bytes)) (hz : z.cells.size = 1)
    (base : Nat) (v : Value) (l : List α) (y : α) (hone : (enc y).oneCell' = true) (hs : a.eval s = v) (hown : OwnL enc w base e v l) (hx : a.eval x = .slice (some ⟨w.heap.size, 0, none⟩) 1 1)
    (hlen : (l.length + 1) * bytes ≤ 140737488355328) (hlen2 : l.length + 1 ≤ maxLen) (hbase : base ≤ w.heap.size)
    (h : ∀ v' w', OwnL enc w' base e v' (l ++ [y]) → Below base w w' → Kept (fun k => some k = v.ownBlock) w w' → wpList P ops Q rest (a.put o.dst v') w') :
    wpList P ops Q (o :: rest) a (w.alloc (.cells #[enc y] e)) := by
  obtain ⟨i0, hi, hz0, hz1, hz2⟩ := info_parts hinfo
  refine wpList_append_own _ hgd s x t ho base e i0 z 1 bytes ht hi hz0 hz1 hz2 hz (by decide) v l.length (l.map enc) hs (World.ownsRow.alloc hown _) ⟨w.heap.size, 0, none⟩ 1 1 [enc y] hx rfl ?_ ?_ hlen2 hlen ?_ ?_
  · intro j u hj
    match j, hj with
    | 0, hj => simp at hj; subst hj; simp [Addr.add]
  · intro u hu; simp at hu; subst hu; exact hone
  · simp; omega
  · intro v' w' hown' hg _
    refine h v' w' ?_ (((Below.refl base w).alloc hbase _).grown hg (by simp; omega) (fun k hk => (World.ownsRow.lt hown k hk).1)) ?_
    · unfold OwnL
      rw [List.map_append, List.length_append]
      exact hown'
    · have k1 : Kept (fun k => some k = v.ownBlock) w (w.alloc (.cells #[enc y] e)) := (Kept.refl _ _).alloc _
      refine k1.trans ⟨hg.os, hg.tape, hg.output, hg.size, fun k hk hm => hg.block k hk (fun he => hm he)⟩
end

/-- What a call may write that reads on and makes a list: the reader's block, and new ones. -/
abbrev OrNew (g B : Nat) : Nat → Prop := fun k => k = g ∨ B ≤ k

theorem info_i64 : (Try.prog.info? 3).map (fun i => (i.zero, i.size, i.bytes)) = some (some (.int .i64 0), 1, 8) := by kernel_rfl
theorem info_str : (Try.prog.info? 9).map (fun i => (i.zero, i.size, i.bytes)) = some (some (.string ⟨#[]⟩), 1, 16) := by kernel_rfl

set_option maxRecDepth 100000 in
set_option maxHeartbeats 800000 in
theorem partsInt_any (w : World) (g : Nat) (s : RS) (most : Int)  (h : Rd w g s) (hok : s.ok) (hlen : s.l.length ≤ 1073741824)  :
    Calls Try.prog 44 #[ptr g, .int .i64 most, .func (.func 28) #[ptr g] #[]] w fun e w' => ∃ v, e = .returned v ∧
      OwnL (Value.int .i64) w' w.heap.size 3 v (rParts rNum s most).1 ∧ Rd w' g (rParts rNum s most).2 ∧ Kept (OrNew g w.heap.size) w w' := by
  have Hc := Lib.hid (count_any w g s most h hok)
  obtain ⟨c, hc, hcm, hc0⟩ := rCount_nat s most hok
  have hokc := rCount_ok s most hok
  have hless : (rCount s most).2.l.length ≤ s.l.length := by
    by_cases he : (rCount s most).2.e = 0
    · have := rCount_less s most hok he; omega
    · rcases hokc with h | h
      · exact absurd h he
      · rw [h]; simp
  have Hspec := Lib.hid (show rParts rNum s most = rLoop rNum c [] (rCount s most).2 by unfold rParts; rw [hc]; rfl)
  have hgl := h.lt
  rw [hc] at Hc
  generalize hs0 : (rCount s most).2 = s0 at Hc hokc hless Hspec hc0
  have hl0 : s0.l.length ≤ 1073741824 := by omega
  clear hc hs0 hless hc0
  have Hokc := Lib.hid hokc; clear hokc
  go_enter Try.func44, Try.ntmps44
  go_wp2_with fail
  refine Hc.out.mono ?_
  rintro e w1 ⟨rfl, hr1, hk1⟩
  go_wp2
  go_loopw [7, 11] (fun v i wr => ∃ (k : Nat) (acc : List Int) (t : RS), k ≤ c ∧ i = .int .i64 k ∧ OwnL (Value.int .i64) wr w.heap.size 3 v acc ∧ Rd wr g t ∧ t.ok ∧ acc.length + t.l.length ≤ 1073741824 ∧
      Kept (OrNew g w.heap.size) w wr ∧ rParts rNum s most = rLoop rNum (c - k) acc t)
    (fun _ i _ => c - (intOf i).toNat)
  case atStart => exact ⟨0, [], s0, by omega, rfl, OwnL.nil _ _ _ _, hr1, Hokc.out, by simpa using hl0, hk1.mono (fun k _ hk => .inl hk), Hspec.out⟩
  case round =>
    obtain ⟨k, acc, t, hk, rfl, hown, hr, hok1, hal, hkp, heq⟩ := hrel
    have Heq := Lib.hid heq; clear heq
    have Hown := Lib.hid hown; clear hown
    have hsz := hkp.size
    by_cases hlt : k < c
    · obtain ⟨f, hf⟩ : ∃ f, c - k = f + 1 := ⟨c - k - 1, by omega⟩
      have Hf := Lib.hid hf; clear hf
      have Hnx := Lib.hid (rnum_any wr g t hr hok1)
      have Hat := Lib.hid (show rLoop rNum (f + 1) acc t = if (rNum t).2.e = 0 then rLoop rNum f (acc ++ [(rNum t).1]) (rNum t).2 else ([], (rNum t).2) from rfl)
      have Hls := Lib.hid (fun he => rNum_less t hok1 he)
      have Hok2 := Lib.hid (rNum_ok t hok1)
      generalize hx : (rNum t).1 = x at Hnx Hat
      generalize ht1 : (rNum t).2 = t1 at Hnx Hat Hls Hok2
      clear hx ht1
      go_wp2_with fail
      refine Hnx.out.mono ?_
      rintro e w2 ⟨rfl, hr2, hk2⟩
      have hsz2 := hk2.size
      have hown2 := Hown.out.kept hk2 (fun k hk hm => by omega)
      have Hown2 := Lib.hid hown2; clear hown2
      have hal1 : acc.length ≤ 1073741824 := by omega
      go_wp2_with (at_builtin; refine append_elem (enc := (Value.int .i64)) (y := x) rfl _ _ 34 3 (.int .i64 0) 8 (by rfl) Try.underlying34 info_i64 rfl w.heap.size _ _ rfl (by rfl) Hown2.out (by rfl) (by omega) (by unfold maxLen; omega) (by omega) ?_; intro v' w3 hown3 hb3 hk3)
      have Hown3 := Lib.hid hown3; clear hown3
      have hr3 : Rd w3 g t1 := hr2.kept (Kept.of_below hb3) (by omega)
      have Herr := Lib.hid (err_any w3 g t1 hr3)
      by_cases hz : t1.e = 0
      · have hz1 : (t1.e != 0) = false := by simp [hz]
        have Hz := Lib.hid hz; clear hz
        go_wp2_with fail
        refine Herr.out.mono ?_
        rintro e w4 ⟨rfl, rfl⟩
        go_wp2
        go_roundw
        case rel =>
          refine ⟨k + 1, acc ++ [x], t1, by omega, by go_num, Hown3.out, hr3, Hok2.out, ?_, (hkp.trans (hk2.mono (fun k _ hk => .inl hk))).trans ((Kept.of_below hb3).mono (fun k _ hk => .inr hk)), ?_⟩
          · have := Hls.out Hz.out; rw [List.length_append]; simp only [List.length_cons, List.length_nil]; omega
          · rw [Heq.out, Hf.out, Hat.out, if_pos Hz.out, show c - (k + 1) = f from by have := Hf.out; omega]
        case measure => simp [intOf]; omega
      · have hz1 : (t1.e != 0) = true := by simp [hz]
        have Hz := Lib.hid hz; clear hz
        go_wp2_with fail
        refine Herr.out.mono ?_
        rintro e w4 ⟨rfl, rfl⟩
        go_wp2
        go_ret
        rw [Heq.out, Hf.out, Hat.out, if_neg Hz.out]
        exact ⟨_, rfl, OwnL.nil _ _ _ _, hr3, (hkp.trans (hk2.mono (fun k _ hk => .inl hk))).trans ((Kept.of_below hb3).mono (fun k _ hk => .inr hk))⟩
    · have hck : c - k = 0 := by omega
      have Hck := Lib.hid hck; clear hck
      go_wp2
      go_ret
      rw [Heq.out, Hck.out]
      exact ⟨_, rfl, Hown.out, hr, hkp⟩

theorem rnums_any (w : World) (g : Nat) (s : RS) (most : Int) (h : Rd w g s) (hok : s.ok) (hlen : s.l.length ≤ 1073741824) :
    Calls Try.prog 29 #[ptr g, .int .i64 most] w fun e w' => ∃ v, e = .returned v ∧
      OwnL (Value.int .i64) w' w.heap.size 3 v (rParts rNum s most).1 ∧ Rd w' g (rParts rNum s most).2 ∧ Kept (OrNew g w.heap.size) w w' := by
  have hmf : ∀ (fn : Fn) (first cap : Array Value) (w : World), (Instr.makeFunc fn first cap).run Try.prog w = .ok (.func fn first cap) w := fun _ _ _ _ => rfl
  have Hp := Lib.hid (partsInt_any w g s most h hok hlen)
  go_enter Try.func29, Try.ntmps29
  go_wp2_with fail
  refine Hp.out.mono ?_
  rintro e w1 ⟨v, rfl, hown, hr, hk⟩
  go_wp2
  go_ret
  exact ⟨_, rfl, hown, hr, hk⟩

theorem textsNext_any (w : World) (g b1 b2 : Nat) (s : RS) (each : Int) (h : Rd w g s) (hok : s.ok) (h1 : w.cell? ⟨b1, 0, none⟩ = some (ptr g)) (h2 : w.cell? ⟨b2, 0, none⟩ = some (.int .i64 each)) :
    Calls Try.prog 46 #[.pointer (some ⟨b1, 0, none⟩), .pointer (some ⟨b2, 0, none⟩)] w (Does w g (.string ⟨(rText s each).1.toArray⟩) (rText s each).2) := by
  have Ht := Lib.hid (text_any w g s each h hok)
  go_enter Try.func46, Try.ntmps46
  go_wp2_with fail
  refine Ht.out.mono ?_
  rintro e w1 ⟨rfl, hr, hk⟩
  go_wp2
  go_ret
  exact ⟨rfl, hr, hk⟩

set_option maxRecDepth 100000 in
set_option maxHeartbeats 800000 in
theorem partsStr_any (w : World) (g : Nat) (s : RS) (most : Int) (b1 b2 : Nat) (each : Int) (h : Rd w g s) (hok : s.ok) (hlen : s.l.length ≤ 1073741824) (hb1 : b1 < w.heap.size) (hb2 : b2 < w.heap.size) (hn1 : b1 ≠ g) (hn2 : b2 ≠ g) (h1 : w.cell? ⟨b1, 0, none⟩ = some (ptr g)) (h2 : w.cell? ⟨b2, 0, none⟩ = some (.int .i64 each)) :
    Calls Try.prog 45 #[ptr g, .int .i64 most, .func (.func 46) #[] #[.pointer (some ⟨b1, 0, none⟩), .pointer (some ⟨b2, 0, none⟩)]] w fun e w' => ∃ v, e = .returned v ∧
      OwnL (fun l : List UInt8 => Value.string ⟨l.toArray⟩) w' w.heap.size 9 v (rParts (rText · each) s most).1 ∧ Rd w' g (rParts (rText · each) s most).2 ∧ Kept (OrNew g w.heap.size) w w' := by
  have Hc := Lib.hid (count_any w g s most h hok)
  obtain ⟨c, hc, hcm, hc0⟩ := rCount_nat s most hok
  have hokc := rCount_ok s most hok
  have hless : (rCount s most).2.l.length ≤ s.l.length := by
    by_cases he : (rCount s most).2.e = 0
    · have := rCount_less s most hok he; omega
    · rcases hokc with h | h
      · exact absurd h he
      · rw [h]; simp
  have Hspec := Lib.hid (show rParts (rText · each) s most = rLoop (rText · each) c [] (rCount s most).2 by unfold rParts; rw [hc]; rfl)
  have hgl := h.lt
  rw [hc] at Hc
  generalize hs0 : (rCount s most).2 = s0 at Hc hokc hless Hspec hc0
  have hl0 : s0.l.length ≤ 1073741824 := by omega
  clear hc hs0 hless hc0
  have Hokc := Lib.hid hokc; clear hokc
  go_enter Try.func45, Try.ntmps45
  go_wp2_with fail
  refine Hc.out.mono ?_
  rintro e w1 ⟨rfl, hr1, hk1⟩
  go_wp2
  go_loopw [7, 11] (fun v i wr => ∃ (k : Nat) (acc : List (List UInt8)) (t : RS), k ≤ c ∧ i = .int .i64 k ∧ OwnL (fun l : List UInt8 => Value.string ⟨l.toArray⟩) wr w.heap.size 9 v acc ∧ Rd wr g t ∧ t.ok ∧ acc.length + t.l.length ≤ 1073741824 ∧
      Kept (OrNew g w.heap.size) w wr ∧ rParts (rText · each) s most = rLoop (rText · each) (c - k) acc t)
    (fun _ i _ => c - (intOf i).toNat)
  case atStart => exact ⟨0, [], s0, by omega, rfl, OwnL.nil _ _ _ _, hr1, Hokc.out, by simpa using hl0, hk1.mono (fun k _ hk => .inl hk), Hspec.out⟩
  case round =>
    obtain ⟨k, acc, t, hk, rfl, hown, hr, hok1, hal, hkp, heq⟩ := hrel
    have Heq := Lib.hid heq; clear heq
    have Hown := Lib.hid hown; clear hown
    have hsz := hkp.size
    by_cases hlt : k < c
    · obtain ⟨f, hf⟩ : ∃ f, c - k = f + 1 := ⟨c - k - 1, by omega⟩
      have Hf := Lib.hid hf; clear hf
      have Hnx := Lib.hid (textsNext_any wr g b1 b2 t each hr hok1 ((World.cell?_of_block (w := w) (hkp.block b1 hb1 (by omega))).trans h1) ((World.cell?_of_block (w := w) (hkp.block b2 hb2 (by omega))).trans h2))
      have Hat := Lib.hid (show rLoop (rText · each) (f + 1) acc t = if ((rText · each) t).2.e = 0 then rLoop (rText · each) f (acc ++ [((rText · each) t).1]) ((rText · each) t).2 else ([], ((rText · each) t).2) from rfl)
      have Hls := Lib.hid (fun he => rText_less t each hok1 he)
      have Hok2 := Lib.hid (rText_ok t each hok1)
      generalize hx : ((rText · each) t).1 = x at Hnx Hat
      generalize ht1 : ((rText · each) t).2 = t1 at Hnx Hat Hls Hok2
      clear hx ht1
      go_wp2_with fail
      refine Hnx.out.mono ?_
      rintro e w2 ⟨rfl, hr2, hk2⟩
      have hsz2 := hk2.size
      have hown2 := Hown.out.kept hk2 (fun k hk hm => by omega)
      have Hown2 := Lib.hid hown2; clear hown2
      have hal1 : acc.length ≤ 1073741824 := by omega
      go_wp2_with (at_builtin; refine append_elem (enc := (fun l : List UInt8 => Value.string ⟨l.toArray⟩)) (y := x) rfl _ _ 35 9 (.string ⟨#[]⟩) 16 (by rfl) Try.underlying35 info_str rfl w.heap.size _ _ rfl (by rfl) Hown2.out (by rfl) (by omega) (by unfold maxLen; omega) (by omega) ?_; intro v' w3 hown3 hb3 hk3)
      have Hown3 := Lib.hid hown3; clear hown3
      have hr3 : Rd w3 g t1 := hr2.kept (Kept.of_below hb3) (by omega)
      have Herr := Lib.hid (err_any w3 g t1 hr3)
      by_cases hz : t1.e = 0
      · have hz1 : (t1.e != 0) = false := by simp [hz]
        have Hz := Lib.hid hz; clear hz
        go_wp2_with fail
        refine Herr.out.mono ?_
        rintro e w4 ⟨rfl, rfl⟩
        go_wp2
        go_roundw
        case rel =>
          refine ⟨k + 1, acc ++ [x], t1, by omega, by go_num, Hown3.out, hr3, Hok2.out, ?_, (hkp.trans (hk2.mono (fun k _ hk => .inl hk))).trans ((Kept.of_below hb3).mono (fun k _ hk => .inr hk)), ?_⟩
          · have := Hls.out Hz.out; rw [List.length_append]; simp only [List.length_cons, List.length_nil]; omega
          · rw [Heq.out, Hf.out, Hat.out, if_pos Hz.out, show c - (k + 1) = f from by have := Hf.out; omega]
        case measure => simp [intOf]; omega
      · have hz1 : (t1.e != 0) = true := by simp [hz]
        have Hz := Lib.hid hz; clear hz
        go_wp2_with fail
        refine Herr.out.mono ?_
        rintro e w4 ⟨rfl, rfl⟩
        go_wp2
        go_ret
        rw [Heq.out, Hf.out, Hat.out, if_neg Hz.out]
        exact ⟨_, rfl, OwnL.nil _ _ _ _, hr3, (hkp.trans (hk2.mono (fun k _ hk => .inl hk))).trans ((Kept.of_below hb3).mono (fun k _ hk => .inr hk))⟩
    · have hck : c - k = 0 := by omega
      have Hck := Lib.hid hck; clear hck
      go_wp2
      go_ret
      rw [Heq.out, Hck.out]
      exact ⟨_, rfl, Hown.out, hr, hkp⟩

theorem rtexts_any (w : World) (g : Nat) (s : RS) (most each : Int) (h : Rd w g s) (hok : s.ok) (hlen : s.l.length ≤ 1073741824) :
    Calls Try.prog 30 #[ptr g, .int .i64 most, .int .i64 each] w fun e w' => ∃ v, e = .returned v ∧
      OwnL (fun l => Value.string ⟨l.toArray⟩) w' w.heap.size 9 v (rParts (rText · each) s most).1 ∧ Rd w' g (rParts (rText · each) s most).2 ∧ Kept (OrNew g w.heap.size) w w' := by
  have hmf : ∀ (fn : Fn) (first cap : Array Value) (w : World), (Instr.makeFunc fn first cap).run Try.prog w = .ok (.func fn first cap) w := fun _ _ _ _ => rfl
  have hgl := h.lt
  go_enter Try.func30, Try.ntmps30
  have hr0 : Rd ((w.alloc (.cells #[ptr g] 27)).alloc (.cells #[.int .i64 each] 3)) g s := h.kept (((Kept.refl (fun _ => False) w).alloc _).alloc _) (fun h => h)
  have c1 : ((w.alloc (.cells #[ptr g] 27)).alloc (.cells #[.int .i64 each] 3)).cell? ⟨w.heap.size, 0, none⟩ = some (ptr g) := by
    rw [World.cell?_alloc_past _ _ _ (by simp), World.cell?_alloc_at _ _ _ _ rfl]; rfl
  have c2 : ((w.alloc (.cells #[ptr g] 27)).alloc (.cells #[.int .i64 each] 3)).cell? ⟨w.heap.size + 1, 0, none⟩ = some (.int .i64 each) := by
    rw [World.cell?_alloc_at _ _ _ _ (by simp)]; rfl
  have Hp := Lib.hid (partsStr_any _ g s most w.heap.size (w.heap.size + 1) each hr0 hok hlen (by simp; omega) (by simp) (by omega) (by omega) c1 c2)
  clear c1 c2 hr0
  go_wp2_with fail
  refine Hp.out.mono ?_
  rintro e w1 ⟨v, rfl, hown, hr, hk⟩
  go_wp2
  go_ret
  have k0 := ((Kept.refl (OrNew g w.heap.size) w).alloc (.cells #[ptr g] 27)).alloc (.cells #[.int .i64 each] 3)
  exact ⟨_, rfl, hown.mono (by simp; omega), hr, k0.trans (hk.mono fun k _ hk => by rcases hk with h | h; exact .inl h; exact .inr (by simp at h; omega))⟩
end Go.Proofs.Ytegdabdnbglhaaa
