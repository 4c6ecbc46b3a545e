/- The document's Files and Items (two lists that are one), and Sort. -/
import Derived.Test.YtfgimhgkjodcgaaDoorArgTree
import Derived.Test.YtfgimhgkjodcgaaDoorArgs3
import Derived.Test.YtfgimhgkjodcgaaDoorFrame
import Derived.Test.YtfgimhgkjodcgaaDoorGen
import Derived.Test.YtfgimhgkjodcgaaDoorOwnL
import Derived.Test.YtfgimhgkjodcgaaDoorQuietLaw
import Derived.Test.YtfgimhgkjodcgaaDoorReadW
import Derived.Test.YtfgimhgkjodcgaaDoorCkX
import Derived.Test.YtfgimhgkjodcgaaDoorRefOrdW
import Derived.Test.YtfgimhgkjodcgaaDoorRowN
import Derived.Test.YtfgimhgkjodcgaaDoorRows
import Derived.Test.YtfgimhgkjodcgaaDoorTreeMath
import Derived.BigQuiet
import Derived.Deep.QuietTactic
import Derived.Lib.Hide
import Derived.WalkKit
import Derived.WalkLawsBesides
import Derived.WalkSpells
set_option linter.unusedVariables false
namespace Go.Proofs.YtfgimhgkjodcgaaDoor
open Go.RowKit

set_option maxRecDepth 100000 in
set_option maxHeartbeats 1000000 in
theorem filesEq_any (N1 N2 : Nat → Prop) (v1 v2 : Value) (l : List FileD) (w : World) (h1 : RowN encF 3 N1 w v1 l) (h2 : RowN encF 3 N2 w v2 l) (hl : l.length ≤ 2000000) :
    Calls Tryd.prog 19 #[v1, v2] w fun e w' => e = .returned (.bool true) ∧ Below w.heap.size w w' := by
  obtain ⟨a1, c1, rfl, _⟩ := h1.slice
  obtain ⟨a2, c2, rfl, _⟩ := h2.slice
  have HC1 := Lib.hid h1; clear h1
  have HC2 := Lib.hid h2; clear h2
  have q0 : ((l.length : Int) != (l.length : Int)) = false := by simp
  go_enter Tryd.func19, Tryd.ntmps19
  go_wp2
  go_loopw [5] (fun i wr => ∃ k : Nat, k ≤ l.length ∧ i = .int .i64 k ∧ Below w.heap.size w wr) (fun i _ => l.length - (intOf i).toNat)
  case atStart => exact ⟨0, by omega, rfl, Below.refl _ _⟩
  case round =>
    obtain ⟨k, hk, rfl, hbel⟩ := hrel
    have HB := Lib.hid hbel; clear hbel
    by_cases hlt : k < l.length
    · obtain ⟨g1, o1, rfl, hs1⟩ := HC1.out.el hlt
      obtain ⟨g2, o2, rfl, hs2⟩ := HC2.out.el hlt
      have hs1' := (hs1 k hlt).new HB.out
      have hs2' := (hs2 k hlt).new HB.out
      clear hs1 hs2
      generalize l[k] = x at *
      have e0 := hs1'.f0
      have e1 := hs1'.f1
      have e2 := hs1'.f2
      have f0 := hs2'.f0
      have f1 := hs2'.f1
      have f2 := hs2'.f2
      clear hs1' hs2'
      have i1 : (k : Int) < (l.length : Int) := by omega
      have i0 : (0 : Int) ≤ (k : Int) := by omega
      go_wp2_with fail
      go_quiet (fail)
      have HBQ := Lib.hid (HB.out.trans ((Below_drewN (Below.refl wr.heap.size wr) nq).mono HB.out.size))
      generalize wr.drewN nq = w3 at *
      go_wp2_with fail
      go_roundw
      case rel => exact ⟨k + 1, by omega, by go_num, HBQ.out⟩
      case measure => simp [intOf]; omega
    · obtain rfl : k = l.length := by omega
      have i1 : ¬ (l.length : Int) < (l.length : Int) := by omega
      go_wp2_with fail
      go_ret
      exact ⟨rfl, HB.out⟩
theorem ins_mem (x : FileD) : ∀ (l : List FileD) (y : FileD), y ∈ insS x l → y = x ∨ y ∈ l
  | [], y, h => by simp [insS] at h; exact .inl h
  | z :: r, y, h => by
    unfold insS at h
    split at h
    · simp at h ⊢; exact h
    · simp at h ⊢
      rcases h with h | h
      · exact .inr (.inl h)
      · rcases ins_mem x r y h with h | h
        · exact .inl h
        · exact .inr (.inr h)
theorem sort_mem' : ∀ (l acc : List FileD) (y : FileD), y ∈ l.foldl (fun acc x => insS x acc) acc → y ∈ acc ∨ y ∈ l
  | [], acc, y, h => .inl h
  | x :: r, acc, y, h => by
    rcases sort_mem' r (insS x acc) y h with h | h
    · rcases ins_mem x acc y h with h | h
      · exact .inr (by simp [h])
      · exact .inl h
    · exact .inr (by simp [h])
theorem sortS_snoc (l : List FileD) (x : FileD) : sortS (l ++ [x]) = insS x (sortS l) := by unfold sortS; rw [List.foldl_append]; rfl
theorem insS_len (x : FileD) : ∀ l : List FileD, (insS x l).length = l.length + 1
  | [] => rfl
  | y :: r => by
    unfold insS
    split
    · simp
    · simp [insS_len x r]
theorem sortS_len : ∀ n (l : List FileD), l.length = n → (sortS l).length = n := by
  intro n
  induction n with
  | zero => intro l h; rw [List.eq_nil_of_length_eq_zero h]; rfl
  | succ n ih =>
    intro l h
    obtain ⟨m, x, rfl⟩ : ∃ m x, l = m ++ [x] := by
      have hne : l ≠ [] := by intro e; rw [e] at h; simp at h
      exact ⟨l.dropLast, l.getLast hne, (List.dropLast_concat_getLast hne).symm⟩
    rw [sortS_snoc, insS_len, ih m (by simpa using h)]
theorem insS_at (x : FileD) (l : List FileD) (k : Nat) (h : k < l.length) : insS x (l.drop k) = if ordS x.path l[k].path < 0 then x :: l[k] :: l.drop (k + 1) else l[k] :: insS x (l.drop (k + 1)) := by
  rw [List.drop_eq_getElem_cons h]; rfl
theorem sort_mem {i : Nat} {xs : List FileD} (y : FileD) (h : y ∈ sortS (xs.take i)) : y ∈ xs := by
  rcases sort_mem' (xs.take i) [] y h with h | h
  · simp at h
  · exact List.mem_of_mem_take h
theorem info_file : (Tryd.prog.info? 33).map (fun i => (i.zero, i.size, i.bytes)) = some (some (.agg #[.string ByteArray.empty, .int .i64 0, .string ByteArray.empty]), 3, 40) := by kernel_rfl
set_option maxRecDepth 100000 in
set_option maxHeartbeats 2000000 in
theorem refSort_any (v : Value) (xs : List FileD) (w : World) (hrow : RowN encF 3 (fun _ => True) w v xs) (hok : ∀ x ∈ xs, FileOk x) (hl : xs.length ≤ 10000) :
    Calls Tryd.prog 42 #[v] w fun e w' => ∃ v', e = .returned v' ∧ OwnN encF 3 w' w.heap.size 33 v' (sortS xs) ∧ Below w.heap.size w w' := by
  obtain ⟨va, vc, hv, _⟩ := hrow.slice
  subst hv
  have HRO := Lib.hid hrow
  have HOK := Lib.hid hok
  clear hrow hok
  go_enter Tryd.func42, Tryd.ntmps42
  go_wp2_with fail
  go_loopw [3, 4] (fun v3 v4 wr => ∃ i : Nat, i ≤ xs.length ∧ v4 = .int .i64 i ∧ OwnN encF 3 wr w.heap.size 33 v3 (sortS (xs.take i)) ∧ Below w.heap.size w wr) (fun _ v4 _ => xs.length - (intOf v4).toNat)
  case atStart => exact ⟨0, by omega, rfl, OwnN.nil _ _ _ _ _, Below.refl _ _⟩
  case round =>
    obtain ⟨i, hi, rfl, hown, hbel⟩ := hrel
    have HO := Lib.hid hown
    have HB := Lib.hid hbel
    clear hown hbel
    obtain ⟨w0, rfl⟩ : ∃ w0, w0 = wr := ⟨_, rfl⟩
    have i0 : (0 : Int) ≤ (i : Int) := by omega
    obtain ⟨wa, wm, wc', hv⟩ := own_slice HO.out
    subst hv
    have hvm : wm = (sortS (xs.take i)).length := own_lenV HO.out
    have hol : (sortS (xs.take i)).length = i := sortS_len i _ (by rw [List.length_take]; omega)
    by_cases hlt : i < xs.length
    · have j1 : (i : Int) < (xs.length : Int) := by omega
      obtain ⟨g, o, rfl, hel⟩ := HRO.out.el hlt
      have HX := Lib.hid ((hel i hlt).new HB.out)
      have HSN := Lib.hid (show sortS (xs.take (i + 1)) = insS xs[i] (sortS (xs.take i)) by rw [List.take_succ_eq_append_getElem hlt, sortS_snoc])
      have hxok := HOK.out xs[i] (List.getElem_mem hlt)
      have HOX := Lib.hid (fun y (hy : y ∈ sortS (xs.take i)) => show FileOk y from HOK.out y (sort_mem y hy))
      generalize sortS (xs.take i) = out at *
      generalize xs[i] = x at *
      subst hvm
      have hob : out.length ≤ 10000 := by omega
      clear hel hol
      go_wp2_with fail
      go_loopw [5, 6, 7] (fun v5 v6 v7 wr => ∃ (k : Nat) (dn : Bool) (nx : List FileD), k ≤ out.length ∧ v7 = .int .i64 k ∧ v6 = .bool dn ∧ OwnN encF 3 wr w0.heap.size 33 v5 nx ∧ Hid (nx ++ (if dn = true then out.drop k else insS x (out.drop k)) = insS x out) ∧ nx.length ≤ 2 * k ∧ Below w0.heap.size w0 wr) (fun _ _ v7 _ => out.length - (intOf v7).toNat)
      case atStart => exact ⟨0, false, [], by omega, rfl, rfl, OwnN.nil _ _ _ _ _, Lib.hid rfl, by simp, Below.refl _ _⟩
      case round =>
        obtain ⟨k, dn, nx, hk, rfl, rfl, hown5, HA, hnx, hbel⟩ := hrel
        have HO5 := Lib.hid hown5
        have HB5 := Lib.hid hbel
        clear hown5 hbel
        have k0 : (0 : Int) ≤ (k : Int) := by omega
        have hx1 := HX.out.new HB5.out
        have x0 := hx1.f0
        have x1 := hx1.f1
        have x2 := hx1.f2
        clear hx1
        by_cases hlk : k < out.length
        · have m1 : (k : Int) < (out.length : Int) := by omega
          have HT := Lib.hid (insS_at x out k hlk)
          have HDR := Lib.hid (show out.drop k = out[k] :: out.drop (k + 1) from List.drop_eq_getElem_cons hlk)
          obtain ⟨g2, o2, rfl, hel2⟩ := (OwnN.row encF_ok HO.out).el hlk
          have hy1 := (hel2 k hlk).new HB5.out
          have hyok := HOX.out out[k] (List.getElem_mem hlk)
          have hy9 := fun w' (hb : Below w0.heap.size w0 w') => (hel2 k hlk).new hb
          generalize out[k] = y at *
          have y0 := hy1.f0
          have y1 := hy1.f1
          have y2 := hy1.f2
          have hyw := fun w' (hb : Below w0.heap.size w0 w') => hy9 w' hb
          clear hy1 hel2 hy9
          obtain ⟨vx, vmx, vcx, hv5⟩ := own_slice HO5.out
          subst hv5
          have hvm5 : vmx = nx.length := own_lenV HO5.out
          subst hvm5
          have OR := fun w' => Lib.hid (refOrder_any x.path y.path w' hxok.p hyok.p)
          have HYW := Lib.hid (fun w' (hb : Below w0.heap.size w0 w') => hyw w' hb)
          clear hyw
          have hnb : nx.length ≤ 20000 := by omega
          cases dn with
          | true =>
            have HN := Lib.hid (show (nx ++ [y]) ++ (if true = true then out.drop (k + 1) else insS x (out.drop (k + 1))) = insS x out by
              rw [← HA.out, if_pos rfl, if_pos rfl, HDR.out, List.append_assoc]; rfl)
            clear HA HT HDR OR
            go_wp2_with fail
            go_quiet (fail)
            have HB6 := Lib.hid (Below_drewN HB5.out nq)
            have HO6 := Lib.hid (HO5.out.new (Below_drewN (Below.refl _ _) nq))
            clear x0 x1 x2 y0 y1 y2 HO5 HB5
            generalize wr.drewN nq = w6 at *
            have y0 := (HYW.out w6 HB6.out).f0
            have y1 := (HYW.out w6 HB6.out).f1
            have y2 := (HYW.out w6 HB6.out).f2
            go_wp2_with (at_builtin; refine append_new (enc := encF) (k := 3) (w := w6) (by rfl) (.tmp 43) (.tmp 48) 22 33 (.agg #[.string ByteArray.empty, .int .i64 0, .string ByteArray.empty]) 40 (by rfl) Tryd.underlying22 info_file (by rfl) (by decide) encF_ok w0.heap.size _ (nx) y (by rfl) HO6.out (by rfl) (by (try simp only [List.length_append, List.length_singleton]); omega) (by unfold maxLen; (try simp only [List.length_append, List.length_singleton]); omega) HB6.out.size _ (by rfl) ?_; intro v7 w7 hown7 ht7; obtain ⟨va7, vm7, vc7, rfl⟩ := own_slice hown7; have HO7 := Lib.hid hown7; have HB7 := Lib.hid (HB6.out.trans ht7.bel); clear hown7 ht7)
            go_roundw
            case rel => exact ⟨k + 1, true, nx ++ [y], by omega, by go_num, rfl, HO7.out, HN, by rw [List.length_append, List.length_singleton]; omega, HB7.out⟩
            case measure => simp [intOf]; omega
          | false =>
            by_cases ho : ordS x.path y.path < 0
            · have HN := Lib.hid (show (nx ++ [x] ++ [y]) ++ (if true = true then out.drop (k + 1) else insS x (out.drop (k + 1))) = insS x out by
                rw [← HA.out, if_pos rfl, if_neg (by decide), HT.out, if_pos ho]; simp only [List.append_assoc]; rfl)
              generalize ordS x.path y.path = oxy at *
              have ob : decide (oxy < 0) = true := decide_eq_true ho
              clear HA HT HDR
              go_wp2_with fail
              go_quiet (exact quiet_left (OR _).out)
              have HB6 := Lib.hid (Below_drewN HB5.out nq)
              have HO6 := Lib.hid (HO5.out.new (Below_drewN (Below.refl _ _) nq))
              clear x0 x1 x2 y0 y1 y2 HO5 HB5 OR ho ob
              generalize wr.drewN nq = w6 at *
              have x0 := (HX.out.new HB6.out).f0
              have x1 := (HX.out.new HB6.out).f1
              have x2 := (HX.out.new HB6.out).f2
              go_wp2_with (first | (at_builtin; refine append_new (enc := encF) (k := 3) (w := w6) (by rfl) (.tmp 36) (.tmp 41) 22 33 (.agg #[.string ByteArray.empty, .int .i64 0, .string ByteArray.empty]) 40 (by rfl) Tryd.underlying22 info_file (by rfl) (by decide) encF_ok w0.heap.size _ (nx) x (by rfl) HO6.out (by rfl) (by (try simp only [List.length_append, List.length_singleton]); omega) (by unfold maxLen; (try simp only [List.length_append, List.length_singleton]); omega) HB6.out.size _ (by rfl) ?_; intro v7 w7 hown7 ht7; obtain ⟨va7, vm7, vc7, rfl⟩ := own_slice hown7; have HO7 := Lib.hid hown7; have HB7 := Lib.hid (HB6.out.trans ht7.bel); clear hown7 ht7; have y0 := (HYW.out w7 HB7.out).f0; have y1 := (HYW.out w7 HB7.out).f1; have y2 := (HYW.out w7 HB7.out).f2) | (at_builtin; refine append_new (enc := encF) (k := 3) (w := w7) (by rfl) (.tmp 43) (.tmp 48) 22 33 (.agg #[.string ByteArray.empty, .int .i64 0, .string ByteArray.empty]) 40 (by rfl) Tryd.underlying22 info_file (by rfl) (by decide) encF_ok w0.heap.size _ (nx ++ [x]) y (by rfl) HO7.out (by rfl) (by (try simp only [List.length_append, List.length_singleton]); omega) (by unfold maxLen; (try simp only [List.length_append, List.length_singleton]); omega) HB7.out.size _ (by rfl) ?_; intro v8 w8 hown8 ht8; have HO8 := Lib.hid hown8; have HB8 := Lib.hid (HB7.out.trans ht8.bel); clear hown8 ht8))
              go_roundw
              case rel => exact ⟨k + 1, true, nx ++ [x] ++ [y], by omega, by go_num, rfl, HO8.out, HN, by simp only [List.length_append, List.length_singleton]; omega, HB8.out⟩
              case measure => simp [intOf]; omega
            · have HN := Lib.hid (show (nx ++ [y]) ++ (if false = true then out.drop (k + 1) else insS x (out.drop (k + 1))) = insS x out by
                rw [← HA.out, if_neg (by decide), if_neg (by decide), HT.out, if_neg ho]; simp only [List.append_assoc]; rfl)
              generalize ordS x.path y.path = oxy at *
              have ob : decide (oxy < 0) = false := decide_eq_false ho
              clear HA HT HDR
              go_wp2_with fail
              go_quiet (exact quiet_left (OR _).out)
              have HB6 := Lib.hid (Below_drewN HB5.out nq)
              have HO6 := Lib.hid (HO5.out.new (Below_drewN (Below.refl _ _) nq))
              clear x0 x1 x2 y0 y1 y2 HO5 HB5 OR ho ob
              generalize wr.drewN nq = w6 at *
              have y0 := (HYW.out w6 HB6.out).f0
              have y1 := (HYW.out w6 HB6.out).f1
              have y2 := (HYW.out w6 HB6.out).f2
              go_wp2_with (at_builtin; refine append_new (enc := encF) (k := 3) (w := w6) (by rfl) (.tmp 43) (.tmp 48) 22 33 (.agg #[.string ByteArray.empty, .int .i64 0, .string ByteArray.empty]) 40 (by rfl) Tryd.underlying22 info_file (by rfl) (by decide) encF_ok w0.heap.size _ (nx) y (by rfl) HO6.out (by rfl) (by (try simp only [List.length_append, List.length_singleton]); omega) (by unfold maxLen; (try simp only [List.length_append, List.length_singleton]); omega) HB6.out.size _ (by rfl) ?_; intro v7 w7 hown7 ht7; obtain ⟨va7, vm7, vc7, rfl⟩ := own_slice hown7; have HO7 := Lib.hid hown7; have HB7 := Lib.hid (HB6.out.trans ht7.bel); clear hown7 ht7)
              go_roundw
              case rel => exact ⟨k + 1, false, nx ++ [y], by omega, by go_num, rfl, HO7.out, HN, by rw [List.length_append, List.length_singleton]; omega, HB7.out⟩
              case measure => simp [intOf]; omega
        · obtain rfl : k = out.length := by omega
          have m1 : ¬ (out.length : Int) < (out.length : Int) := by omega
          obtain ⟨vx, vmx, vcx, hv5⟩ := own_slice HO5.out
          subst hv5
          have hvm5 : vmx = nx.length := own_lenV HO5.out
          subst hvm5
          have hdn : out.drop out.length = [] := List.drop_eq_nil_of_le (Nat.le_refl _)
          have hnb : nx.length ≤ 20000 := by omega
          cases dn with
          | true =>
            have HN := Lib.hid (show nx = insS x out by rw [← HA.out, if_pos rfl, hdn, List.append_nil])
            clear HA hdn x0 x1 x2
            go_wp2_with fail
            go_roundw
            case rel => exact ⟨i + 1, by omega, by go_num, by rw [HSN.out, ← HN.out]; exact OwnN.mono HO5.out HB.out.size, HB.out.trans (HB5.out.mono HB.out.size)⟩
            case measure => simp [intOf]; omega
          | false =>
            have HN := Lib.hid (show nx ++ [x] = insS x out by rw [← HA.out, if_neg (by decide), hdn]; rfl)
            clear HA hdn
            go_wp2_with (at_builtin; refine append_new (enc := encF) (k := 3) (w := wr) (by rfl) (.tmp 52) (.tmp 57) 22 33 (.agg #[.string ByteArray.empty, .int .i64 0, .string ByteArray.empty]) 40 (by rfl) Tryd.underlying22 info_file (by rfl) (by decide) encF_ok w0.heap.size _ (nx) x (by rfl) HO5.out (by rfl) (by (try simp only [List.length_append, List.length_singleton]); omega) (by unfold maxLen; (try simp only [List.length_append, List.length_singleton]); omega) HB5.out.size _ (by rfl) ?_; intro v7 w7 hown7 ht7; obtain ⟨va7, vm7, vc7, rfl⟩ := own_slice hown7; have HO7 := Lib.hid hown7; have HB7 := Lib.hid (HB5.out.trans ht7.bel); clear hown7 ht7)
            go_roundw
            case rel => exact ⟨i + 1, by omega, by go_num, by rw [HSN.out, ← HN.out]; exact OwnN.mono HO7.out HB.out.size, HB.out.trans (HB7.out.mono HB.out.size)⟩
            case measure => simp [intOf]; omega
    · obtain rfl : i = xs.length := by omega
      have j1 : ¬ (xs.length : Int) < (xs.length : Int) := by omega
      have HN := Lib.hid (show sortS (xs.take xs.length) = sortS xs by rw [List.take_length])
      rw [HN.out] at HO
      clear hvm hol
      go_wp2_with fail
      go_ret
      exact ⟨_, rfl, HO.out, HB.out⟩
end Go.Proofs.YtfgimhgkjodcgaaDoor
