/- Several texts in one: ToldIW, TreeIW. -/
import Derived.Test.YtfgimhgkjodcgaaDoorArgTree
import Derived.Test.YtfgimhgkjodcgaaDoorArgs3
import Derived.Test.YtfgimhgkjodcgaaDoorTcX
import Derived.Test.YtfgimhgkjodcgaaDoorFrame
import Derived.Test.YtfgimhgkjodcgaaDoorGen
import Derived.Test.YtfgimhgkjodcgaaDoorImgMath
import Derived.Test.YtfgimhgkjodcgaaDoorMarkMath
import Derived.Test.YtfgimhgkjodcgaaDoorOwnL
import Derived.Test.YtfgimhgkjodcgaaDoorParts
import Derived.Test.YtfgimhgkjodcgaaDoorPickedTW
import Derived.Test.YtfgimhgkjodcgaaDoorProg
import Derived.Test.YtfgimhgkjodcgaaDoorReadMath
import Derived.Test.YtfgimhgkjodcgaaDoorReadNumW
import Derived.Test.YtfgimhgkjodcgaaDoorReadW
import Derived.Test.YtfgimhgkjodcgaaDoorPuX
import Derived.Test.YtfgimhgkjodcgaaDoorOfX
import Derived.Test.YtfgimhgkjodcgaaDoorRefReadW
import Derived.Test.YtfgimhgkjodcgaaDoorCkX
import Derived.Test.YtfgimhgkjodcgaaDoorRefSortW
import Derived.Test.YtfgimhgkjodcgaaDoorTrX
import Derived.Test.YtfgimhgkjodcgaaDoorRowN
import Derived.Test.YtfgimhgkjodcgaaDoorRows
import Derived.Test.YtfgimhgkjodcgaaDoorShelf
import Derived.Test.YtfgimhgkjodcgaaDoorSoX
import Derived.Test.YtfgimhgkjodcgaaDoorTmX
import Derived.Test.YtfgimhgkjodcgaaDoorTreeMath
import Derived.BigQuiet
import Derived.BigRegion
import Derived.Deep.Cut
import Derived.Deep.CutRange
import Derived.Deep.DeepCutAuto
import Derived.Deep.QuietTactic
import Derived.Deep.RegionHeld
import Derived.Laws.RangeAny
import Derived.Lib.Hide
import Derived.LoopIn
import Derived.LoopNIn
import Derived.LoopTactic
import Derived.OwnWalkIn
import Derived.RangeFuncBound
import Derived.RangeFuncCalls
import Derived.RangeFuncLeaves
import Derived.RangeFuncNested
import Derived.Shelf.Abstract
import Derived.Shelf.RegionOpen
import Derived.StillTail
import Derived.TacticsInMore
import Derived.WalkKit
import Derived.WalkLawsBesides
import Derived.WalkSpells
import Derived.Test.YtfgimhgkjodcgaaDoorLists
import Derived.Test.YtfgimhgkjodcgaaDoorPthX
import Derived.Deep.Slices
import Derived.Deep.Strs
import Derived.Lib.SmallJoins
/- Landed image: readTold, walked. -/
set_option linter.unusedVariables false
namespace Go.Proofs.YtfgimhgkjodcgaaDoor
open Go.RowKit

def encZ (x : Int) : List Value := [.int .i64 x]
theorem encZ_ok : EncN encZ 1 := ⟨fun _ => rfl, fun x u hu => by simp [encZ] at hu; rw [hu]; rfl⟩
theorem info_intI : (Tryd.prog.info? 3).map (fun i => (i.zero, i.size, i.bytes)) = some (some (.int .i64 0), 1, 8) := by kernel_rfl
theorem kept_onI {w a b : World} {g : Nat} {N : Nat → Prop} (h : Kept (· = g) w a) (k : Kept N a b) (hn : ∀ i, i < w.heap.size → N i → i = g) : Kept (· = g) w b :=
  ⟨k.os.trans h.os, k.tape.trans h.tape, k.output.trans h.output, Nat.le_trans h.size k.size, fun i hi hm => (k.block i (Nat.lt_of_lt_of_le hi h.size) (fun n => hm (hn i hi n))).trans (h.block i hi hm)⟩
/-- The state: a reader in block g, a list of files and one of numbers of the call's own. -/
structure TR (w0 wr : World) (g : Nat) (v1 v2 : Value) (l : List FileD) (z : List Int) (r : RS) : Prop where
  o1 : OwnN encF 3 wr w0.heap.size 33 v1 l
  o2 : OwnN encZ 1 wr w0.heap.size 3 v2 z
  rd : Rd wr g r
  kp : Kept (· = g) w0 wr
  lt : g < w0.heap.size
section
variable {w0 wr w' : World} {g : Nat} {v1 v2 v' : Value} {l l' : List FileD} {z z' : List Int} {r r' : RS}
theorem TR.does (T : TR w0 wr g v1 v2 l z r) (hr : Rd w' g r') (hk : Kept (· = g) wr w') : TR w0 w' g v1 v2 l z r' :=
  ⟨T.o1.kept hk (fun g' hg e => by have := (T.o1.lt hg).1; have := T.lt; omega), T.o2.kept hk (fun g' hg e => by have := (T.o2.lt hg).1; have := T.lt; omega), hr, kept_onI T.kp hk (fun _ _ e => e), T.lt⟩
theorem TR.new (T : TR w0 wr g v1 v2 l z r) (hb : Below wr.heap.size wr w') : TR w0 w' g v1 v2 l z r :=
  ⟨T.o1.new hb, T.o2.new hb, T.rd.kept (Kept.new hb (fun _ => False)) id, kept_onI T.kp (Kept.new hb (fun _ => False)) (fun _ _ e => e.elim), T.lt⟩
theorem TR.push1 (T : TR w0 wr g v1 v2 l z r) (ho : OwnN encF 3 w' w0.heap.size 33 v' l') (ht : TurnN w0.heap.size wr v1 w' v') : TR w0 w' g v' v2 l' z r :=
  ⟨ho, T.o2.kept ht.kept (fun g' hg e => own_apart T.o1 T.o2 (by decide) e hg), T.rd.kept ht.kept (fun e => by have := (T.o1.lt e).1; have := T.lt; omega), kept_onI T.kp ht.kept (fun i hi e => by have := (T.o1.lt e).1; omega), T.lt⟩
theorem TR.push2 (T : TR w0 wr g v1 v2 l z r) (ho : OwnN encZ 1 w' w0.heap.size 3 v' z') (ht : TurnN w0.heap.size wr v2 w' v') : TR w0 w' g v1 v' l z' r :=
  ⟨T.o1.kept ht.kept (fun g' hg e => own_apart T.o1 T.o2 (by decide) hg e), ho, T.rd.kept ht.kept (fun e => by have := (T.o2.lt e).1; have := T.lt; omega), kept_onI T.kp ht.kept (fun i hi e => by have := (T.o2.lt e).1; omega), T.lt⟩
theorem TR.le (T : TR w0 wr g v1 v2 l z r) : w0.heap.size ≤ wr.heap.size := T.kp.size
end
theorem tolF_stop (k : Nat) (r : RS) (out : List ToldD) (h : r.e ≠ 0) : tolF k r out = (out, r) := by
  cases k with
  | zero => rfl
  | succ k => show (if r.e ≠ 0 then _ else _) = _; rw [if_pos h]
theorem bare_file {x : ToldD} (h : ToldOk x) : FileOk (bare x) := by
  obtain ⟨h1, h2, h3, _, _⟩ := h
  exact ⟨by show x.path.length ≤ _; omega, ⟨by show _ ≤ x.mode; omega, by show x.mode ≤ _; omega⟩, by show ([] : Txt).length ≤ _; simp⟩
set_option maxRecDepth 100000 in
set_option maxHeartbeats 2000000 in
theorem readTold_any (w : World) (g : Nat) (s : Txt) (h : Rd w g ⟨s, 0⟩) :
    Calls Tryd.prog 35 #[ptr g] w fun e w' => ∃ v1 v2 r', e = .returned (.tuple #[v1, v2, .int .i64 (toldS s).e]) ∧ ((toldS s).e = 0 → r' = ⟨(toldS s).rest, 0⟩) ∧ TR w w' g v1 v2 ((toldS s).l.map bare) ((toldS s).l.map (·.size)) r' := by
  have hok0 : (⟨s, 0⟩ : RS).ok := .inl rfl
  have CN := Lib.hid (count_any w g ⟨s, 0⟩ 256 h hok0)
  have T0 := Lib.hid (show TR w w g (.slice none 0 0) (.slice none 0 0) [] [] ⟨s, 0⟩ from ⟨OwnN.nil _ _ _ _ _, OwnN.nil _ _ _ _ _, h, Kept.refl _ _, h.lt⟩)
  have hcok := rCount_ok ⟨s, 0⟩ 256 hok0
  obtain ⟨c0, hz1, hz2, _⟩ := rCount_le ⟨s, 0⟩ hok0 256
  rw [show ((256 : Nat) : Int) = 256 from rfl] at hz1
  have HRS := Lib.hid (show toldS s = tolEnd (tolF c0 (rCount ⟨s, 0⟩ 256).2 []).1 (tolF c0 (rCount ⟨s, 0⟩ 256).2 []).2 by unfold toldS; rw [hz1, Int.toNat_natCast])
  have HE0 := Lib.hid (show 0 < c0 → (rCount ⟨s, 0⟩ 256).2.e = 0 by
    obtain ⟨_, hn, _, h3⟩ := rCount_nat ⟨s, 0⟩ 256 hok0
    intro hc
    by_cases k : (rCount ⟨s, 0⟩ 256).2.e = 0
    · exact k
    · have := h3 k; omega)
  rw [hz1] at CN
  generalize (rCount ⟨s, 0⟩ 256).2 = r0 at *
  generalize toldS s = res at *
  obtain ⟨FIN, hF⟩ : ∃ FIN, FIN = tolF c0 r0 [] := ⟨_, rfl⟩
  rw [← hF] at HRS
  have HF0 := Lib.hid (show tolF (c0 - 0) r0 [] = FIN from hF.symm)
  have HFO := Lib.hid (show (∀ x ∈ FIN.1, ToldOk x) ∧ FIN.1.length ≤ 256 by
    obtain ⟨h1, h2⟩ := tolF_ok c0 r0 [] hcok (by simp)
    rw [← hF] at h1 h2
    refine ⟨h1, ?_⟩
    simp at h2
    omega)
  clear hF hz1 h hok0
  go_enter Tryd.func35, Tryd.ntmps35
  go_wp2_with fail
  refine CN.out.mono ?_
  rintro e w1 ⟨rfl, hr1, hk1⟩
  have T1 := Lib.hid (T0.out.does hr1 hk1)
  clear hr1 hk1 T0 CN
  go_wp2_with fail
  go_loopw [5, 6, 12] (fun v5 v6 v12 wr => ∃ (i : Nat) (r : RS) (out : List ToldD), i ≤ c0 ∧ v12 = .int .i64 i ∧ TR w wr g v5 v6 (out.map bare) (out.map (·.size)) r ∧ Hid (tolF (c0 - i) r out = FIN) ∧ Hid (i < c0 → r.e = 0) ∧ r.ok ∧ out.length = i) (fun _ _ v12 _ => c0 - (intOf v12).toNat)
  case atStart => exact ⟨0, r0, [], by omega, rfl, T1.out, HF0, HE0, hcok, rfl⟩
  case round =>
    clear T1 HF0 hcok HE0
    obtain ⟨i, r, out, hi, rfl, hT, HA, HE, hok, hol⟩ := hrel
    have T := Lib.hid hT
    clear hT
    have HOL := Lib.hid hol
    clear hol
    obtain ⟨va, vm, vc, hv⟩ := own_slice T.out.o1
    subst hv
    obtain ⟨za, zm, zc, hv⟩ := own_slice T.out.o2
    subst hv
    have i0 : (0 : Int) ≤ (i : Int) := by omega
    by_cases hlt : i < c0
    · have he := HE.out hlt
      have j1 : (i : Int) < (c0 : Int) := by omega
      have HST := Lib.hid (show tolF (c0 - (i + 1)) (oneTo r).2 (out ++ [(oneTo r).1]) = FIN by
        rw [← HA.out, show c0 - i = (c0 - (i + 1)) + 1 by omega]
        show _ = if r.e ≠ 0 then (out, r) else _
        rw [if_neg (fun k => k he)])
      have HTO := Lib.hid (oneTo_ok r hok).1
      have HON := Lib.hid (show oneTo r = (⟨(rText r 200).1, (rNum (rText r 200).2).1, (rCount (rNum (rText r 200).2).2 65536).1⟩, (rCount (rNum (rText r 200).2).2 65536).2) from rfl)
      have K2 := Lib.hid (fun w' (h : Rd w' g r) => text_any w' g r 200 h hok)
      have o2 := rText_ok r 200 hok
      have htl := rText_len_le r hok 200
      rw [show ((200 : Nat) : Int) = 200 from rfl] at htl
      generalize (rText r 200).1 = t at *
      generalize (rText r 200).2 = r2 at *
      have K3 := Lib.hid (fun w' (h : Rd w' g r2) => rnum_any w' g r2 h o2)
      have o3 := rNum_ok r2 o2
      generalize (rNum r2).1 = m at *
      generalize (rNum r2).2 = r3 at *
      have K4 := Lib.hid (fun w' (h : Rd w' g r3) => count_any w' g r3 65536 h o3)
      have o4 := rCount_ok r3 65536 o3
      generalize (rCount r3 65536).1 = sz at *
      generalize (rCount r3 65536).2 = r4 at *
      rw [HON.out] at HST HTO
      have HO4 := Lib.hid o4
      have CP := fun w' => Lib.hid (tclone_any t w' (by omega))
      have hol : out.length ≤ 256 := by have := HOL.out; omega
      have HM1 := Lib.hid (show (out ++ [(⟨t, m, sz⟩ : ToldD)]).map bare = out.map bare ++ [⟨t, m, []⟩] by rw [List.map_append]; rfl)
      have HM2 := Lib.hid (show (out ++ [(⟨t, m, sz⟩ : ToldD)]).map (·.size) = out.map (·.size) ++ [sz] by rw [List.map_append]; rfl)
      clear o2 o3 o4 HON hok HA HE he
      go_wp2_with fail
      refine (K2.out _ T.out.rd).mono ?_
      rintro e w2 ⟨rfl, hr2, hk2⟩
      have T2 := Lib.hid (T.out.does hr2 hk2)
      clear hr2 hk2 K2 T
      go_wp2_with fail
      refine (CP _).out.mono ?_
      rintro e w3 ⟨rfl, hb3⟩
      have T3 := Lib.hid (T2.out.new hb3)
      clear hb3 T2 CP
      go_wp2_with fail
      refine (K3.out _ T3.out.rd).mono ?_
      rintro e w4 ⟨rfl, hr2, hk2⟩
      have T4 := Lib.hid (T3.out.does hr2 hk2)
      clear hr2 hk2 K3 T3
      have hsz4 := T4.out.le
      have hll : (out.map bare).length ≤ 256 := by rw [List.length_map]; exact hol
      have hzl : (out.map (·.size)).length ≤ 256 := by rw [List.length_map]; exact hol
      generalize out.map bare = fl at *
      generalize out.map (·.size) = zl at *
      go_wp2_with (at_builtin; go_loud (refine append_new (enc := encF) (k := 3) (w := w4) (by rfl) (.tmp 17) (.tmp 22) 22 33 (.agg #[.string ByteArray.empty, .int .i64 0, .string ByteArray.empty]) 40 (by rfl) Tryd.underlying22 info_file (by rfl) (by decide) encF_ok w.heap.size _ fl ⟨t, m, []⟩ (by rfl) T4.out.o1 (by rfl) (by omega) (by unfold maxLen; omega) hsz4 _ (by rfl) ?_; intro v7 w7 hown7 ht7; obtain ⟨va7, vm7, vc7, rfl⟩ := own_slice hown7; have T7 := Lib.hid (T4.out.push1 hown7 ht7); clear hown7 ht7))
      refine (K4.out _ T7.out.rd).mono ?_
      rintro e w8 ⟨rfl, hr2, hk2⟩
      have T8 := Lib.hid (T7.out.does hr2 hk2)
      clear hr2 hk2 K4 T7 T4 hsz4
      have hsz8 := T8.out.le
      have ER := Lib.hid (fun w' (h : Rd w' g r4) => err_any w' g r4 h)
      go_wp2_with (at_builtin; go_loud (refine append_new (enc := encZ) (k := 1) (w := w8) (by rfl) (.tmp 24) (.tmp 27) 67 3 (.int .i64 0) 8 (by rfl) Tryd.underlying67 info_intI (by rfl) (by decide) encZ_ok w.heap.size _ zl sz (by rfl) T8.out.o2 (by rfl) (by omega) (by unfold maxLen; omega) hsz8 _ (by rfl) ?_; intro v9 w9 hown9 ht9; obtain ⟨va9, vm9, vc9, rfl⟩ := own_slice hown9; have T9 := Lib.hid (T8.out.push2 hown9 ht9); clear hown9 ht9))
      refine (ER.out _ T9.out.rd).mono ?_
      rintro e w10 ⟨rfl, rfl⟩
      clear ER T8 hsz8
      rw [← HM1.out, ← HM2.out] at T9
      by_cases her : r4.e = 0
      · have q1 : (r4.e != 0) = false := by simp [her]
        have HEN := Lib.hid (show i + 1 < c0 → r4.e = 0 from fun _ => her)
        have HL := Lib.hid (show (out ++ [(⟨t, m, sz⟩ : ToldD)]).length = i + 1 by rw [List.length_append, HOL.out]; rfl)
        clear her
        go_wp2_with fail
        go_roundw
        case rel => exact ⟨i + 1, r4, _, by omega, by go_num, T9.out, HST, HEN, HO4.out, HL.out⟩
        case measure => simp [intOf]; omega
      · have q1 : (r4.e != 0) = true := by simp [her]
        have HFI := Lib.hid (show FIN = (out ++ [(⟨t, m, sz⟩ : ToldD)], r4) by rw [← HST.out, tolF_stop _ _ _ her])
        have HQ := Lib.hid (show r4.e ≠ 0 from her)
        have ER := Lib.hid (fun w' (h : Rd w' g r4) => err_any w' g r4 h)
        clear her HST
        go_wp2_with fail
        refine (ER.out _ T9.out.rd).mono ?_
        rintro e w11 ⟨rfl, rfl⟩
        have HRE := Lib.hid (show res = ⟨[], [], r4.e⟩ by rw [HRS.out, HFI.out]; unfold tolEnd; rw [if_pos HQ.out])
        have HZ := Lib.hid (show ¬ res.e = 0 by rw [HRE.out]; exact HQ.out)
        go_wp2_with fail
        go_ret3
        exact ⟨_, _, r4, by rw [HRE.out]; rfl, fun k => absurd k HZ.out, by rw [HRE.out]; exact ⟨OwnN.nil _ _ _ _ _, OwnN.nil _ _ _ _ _, T9.out.rd, T9.out.kp, T9.out.lt⟩⟩
    · have hic : i = c0 := by omega
      subst hic
      have j1 : ¬ (i : Int) < (i : Int) := by omega
      have HFI := Lib.hid (show FIN = (out, r) by rw [← HA.out, Nat.sub_self]; rfl)
      have ER := Lib.hid (fun w' (h : Rd w' g r) => err_any w' g r h)
      have HOK := Lib.hid (show ∀ x ∈ out, ToldOk x by have := HFO.out.1; rw [HFI.out] at this; exact this)
      have hol : out.length ≤ 256 := by have := HFO.out.2; rw [HFI.out] at this; exact this
      rw [HFI.out] at HRS
      clear HA HE hok
      go_wp2_with fail
      refine (ER.out _ T.out.rd).mono ?_
      rintro e w11 ⟨rfl, rfl⟩
      clear ER
      by_cases her : r.e = 0
      · have q1 : (r.e != 0) = false := by simp [her]
        have HFB := Lib.hid (show ∀ x ∈ out.map bare, FileOk x by
          intro x hx
          obtain ⟨y, hy, rfl⟩ := List.mem_map.1 hx
          exact bare_file (HOK.out y hy))
        have CK := Lib.hid (check_any _ (out.map bare) w11 ((OwnN.row encF_ok T.out.o1).mono (fun _ _ => trivial)) HFB.out (by rw [List.length_map]; omega))
        have HR2 := Lib.hid (show res = if checkS (out.map bare) ≠ 0 then ⟨[], [], checkS (out.map bare)⟩ else ⟨out, r.l, 0⟩ by rw [HRS.out]; unfold tolEnd; (try dsimp only); rw [if_neg (fun k => k her)])
        have HRR := Lib.hid (show r = ⟨r.l, 0⟩ by rw [← her])
        by_cases hck : checkS (out.map bare) = 0
        · have q2 : (checkS (out.map bare) != 0) = false := by simp [hck]
          rw [if_neg (fun k => k hck)] at HR2
          have HFIN := Lib.hid (show res.e = 0 → r = ⟨res.rest, 0⟩ by intro _; rw [HR2.out]; exact HRR.out)
          generalize checkS (out.map bare) = ck at *
          clear her hck HRS
          go_wp2_with fail
          refine CK.out.mono ?_
          rintro e w12 ⟨rfl, hb12⟩
          have T12 := Lib.hid (T.out.new hb12)
          clear hb12 CK
          go_wp2_with fail
          go_ret3
          exact ⟨_, _, r, by rw [HR2.out]; rfl, HFIN.out, by rw [HR2.out]; exact T12.out⟩
        · have q2 : (checkS (out.map bare) != 0) = true := by simp [hck]
          rw [if_pos hck] at HR2
          have HZ := Lib.hid (show ¬ res.e = 0 by rw [HR2.out]; exact hck)
          generalize checkS (out.map bare) = ck at *
          clear her hck HRS
          go_wp2_with fail
          refine CK.out.mono ?_
          rintro e w12 ⟨rfl, hb12⟩
          have T12 := Lib.hid (T.out.new hb12)
          clear hb12 CK
          go_wp2_with fail
          go_ret3
          exact ⟨_, _, r, by rw [HR2.out]; rfl, fun k => absurd k HZ.out, by rw [HR2.out]; exact ⟨OwnN.nil _ _ _ _ _, OwnN.nil _ _ _ _ _, T12.out.rd, T12.out.kp, T12.out.lt⟩⟩
      · have q1 : (r.e != 0) = true := by simp [her]
        have HRE := Lib.hid (show res = ⟨[], [], r.e⟩ by rw [HRS.out]; unfold tolEnd; rw [if_pos her])
        have HZ := Lib.hid (show ¬ res.e = 0 by rw [HRE.out]; exact her)
        clear her
        go_wp2_with fail
        go_ret3
        exact ⟨_, _, r, by rw [HRE.out]; rfl, fun k => absurd k HZ.out, by rw [HRE.out]; exact ⟨OwnN.nil _ _ _ _ _, OwnN.nil _ _ _ _ _, T.out.rd, T.out.kp, T.out.lt⟩⟩
end Go.Proofs.YtfgimhgkjodcgaaDoor
/- Landed image: Tree, walked. -/
set_option linter.unusedVariables false
namespace Go.Proofs.YtfgimhgkjodcgaaDoor
open Go.RowKit

/-! ### A struct of an own list, one field turned -/
section
variable {α : Type} {enc : α → List Value} {k : Nat}
theorem flatN_set (h : EncN enc k) : ∀ (l : List α) (i r : Nat) (u : Value) (y : α) (hi : i < l.length), r < k → enc y = (enc l[i]).set r u → (flatN enc l).set (i * k + r) u = flatN enc (l.set i y)
  | [], i, r, u, y, hi, _, _ => by simp at hi
  | x :: t, 0, r, u, y, hi, hr, he => by
    rw [Nat.zero_mul, Nat.zero_add, flatN_cons, List.set_cons_zero, flatN_cons, List.set_append_left _ _ (by rw [h.len]; exact hr)]
    rw [he]; rfl
  | x :: t, i + 1, r, u, y, hi, hr, he => by
    rw [flatN_cons, List.set_cons_succ, flatN_cons, List.set_append_right _ _ (by rw [h.len, Nat.add_mul]; omega), h.len, show (i + 1) * k + r - k = i * k + r by rw [Nat.add_mul]; omega]
    rw [flatN_set h t i r u y (by simpa using hi) hr (by simpa using he)]
theorem OwnN.put {w : World} {base : Nat} {e : TypeId} {g n c : Nat} {xs : List α} (hE : EncN enc k) (h : OwnN enc k w base e (.slice (some ⟨g, 0, none⟩) n c) xs) (i r : Nat) (u : Value) (y : α) (hi : i < xs.length) (hr : r < k) (hy : enc y = (enc xs[i]).set r u) :
    OwnN enc k (w.setCell ⟨g, i * k + r, none⟩ u) base e (.slice (some ⟨g, 0, none⟩) n c) (xs.set i y) ∧ Kept (· = g) w (w.setCell ⟨g, i * k + r, none⟩ u) := by
  have hn : n = xs.length := by
    rcases h.2 with ⟨h', _⟩ | ⟨g', cap', cur, h', _⟩
    · simp at h'
    · simp at h'; exact h'.2.1
  subst hn
  obtain ⟨h1, h2⟩ := World.ownsRow.stored h (i * k + r) u
  refine ⟨?_, ⟨h2.os, h2.tape, h2.output, h2.size, fun j hj hm => h2.block j hj (fun e => hm (Option.some.inj e))⟩⟩
  rw [flatN_set hE xs i r u y hi hr hy] at h1
  unfold OwnN
  rw [List.length_set]
  exact h1
theorem OwnN.at {w : World} {base : Nat} {e : TypeId} {v : Value} {xs : List α} (hE : EncN enc k) (h : OwnN enc k w base e v xs) (hx : xs ≠ []) : ∃ g c, v = .slice (some ⟨g, 0, none⟩) xs.length c ∧ xs.length ≤ c ∧ base ≤ g ∧ g < w.heap.size ∧ (∀ i (hi : i < xs.length), ElAt enc w g (i * k) xs[i]) ∧ ∀ j, w.frozen? ⟨g, j, none⟩ = false := by
  rcases h.2 with ⟨rfl, hn⟩ | ⟨g, cap, cur, rfl, hb, hg, hle, _⟩
  · exact absurd (List.eq_nil_of_length_eq_zero hn) hx
  · refine ⟨g, cap, rfl, hle, hb, (Array.getElem?_eq_some_iff.1 hg).1, fun i hi => ?_, fun j => World.ownsRow.frozenAt h j⟩
    obtain ⟨a', c', hv, _, hc⟩ := OwnN.row hE h
    injection hv with e1 e2 e3
    obtain ⟨g', o', he, _, hx⟩ := hc i hi
    rw [← e1] at he
    simp at he
    obtain ⟨rfl, rfl⟩ := he
    rw [Nat.zero_add] at hx
    exact hx
end
/-! ### The files filled, as they are read -/
def fillR : List ToldD → RS → List FileD × RS
  | [], r => ([], r)
  | x :: t, r => (⟨x.path, x.mode, (rRaw r x.size).1⟩ :: (fillR t (rRaw r x.size).2).1, (fillR t (rRaw r x.size).2).2)
theorem fillR_err : ∀ (l : List ToldD) (r : RS), r.e ≠ 0 → (fillR l r).2 = r
  | [], _, _ => rfl
  | x :: t, r, h => by
    show (fillR t (rRaw r x.size).2).2 = r
    rw [rRaw_err r x.size h]
    exact fillR_err t r h
theorem fillR_len : ∀ (l : List ToldD) (r : RS), (fillR l r).1.length = l.length
  | [], _ => rfl
  | x :: t, r => by
    show (_ :: (fillR t (rRaw r x.size).2).1).length = _
    rw [List.length_cons, fillR_len t, List.length_cons]
theorem fillF_is : ∀ (l : List ToldD) (r : RS) (out : List FileD), (∀ x ∈ l, 0 ≤ x.size) → r.e = 0 →
    fillF l r.l out = if (rEnd (fillR l r).2).e ≠ 0 then ([], (rEnd (fillR l r).2).e) else (out ++ (fillR l r).1, 0)
  | [], r, out, _, h => by
    show (if r.l = [] then (out, 0) else ([], 4)) = if (rEnd r).e ≠ 0 then ([], (rEnd r).e) else (out ++ [], 0)
    unfold rEnd
    by_cases hr : r.l = []
    · rw [if_pos hr, if_neg (show ¬ r.l ≠ [] from fun k => k hr), if_neg (fun k => k h), List.append_nil]
    · have hf : (rFail r 4).e = 4 := by unfold rFail; rw [if_pos h]
      rw [if_neg hr, if_pos hr, hf, if_pos (by decide)]
  | x :: t, r, out, hs, h => by
    have hx := hs x (by simp)
    show (if (r.l.length : Int) < x.size then ([], 3) else fillF t (r.l.drop x.size.toNat) (out ++ [⟨x.path, x.mode, r.l.take x.size.toNat⟩])) = if (rEnd (fillR t (rRaw r x.size).2).2).e ≠ 0 then ([], (rEnd (fillR t (rRaw r x.size).2).2).e) else (out ++ (⟨x.path, x.mode, (rRaw r x.size).1⟩ :: (fillR t (rRaw r x.size).2).1), 0)
    by_cases hc : (r.l.length : Int) < x.size
    · have e1 : (rRaw r x.size).2 = ⟨[], 3⟩ := by rw [rRaw_long r x.size (by omega) hc]; unfold rFail; rw [if_pos h]
      have e2 := fillR_err t ⟨[], 3⟩ (by decide)
      rw [if_pos hc, e1, e2]
      rfl
    · have e1 : rRaw r x.size = (r.l.take x.size.toNat, ⟨r.l.drop x.size.toNat, 0⟩) := by
        obtain ⟨n, hn⟩ : ∃ n : Nat, x.size = (n : Int) := ⟨x.size.toNat, by omega⟩
        rw [hn, Int.toNat_natCast]
        exact rRaw_all r n h (by omega)
      rw [if_neg hc, e1]
      dsimp only
      have ih := fillF_is t ⟨r.l.drop x.size.toNat, 0⟩ (out ++ [⟨x.path, x.mode, r.l.take x.size.toNat⟩]) (fun y hy => hs y (by simp [hy])) rfl
      dsimp only at ih
      rw [ih, List.append_assoc]
      rfl
theorem rRaw_len (r : RS) (n : Int) (h : n ≤ 65536) : (rRaw r n).1.length ≤ 65536 := by
  unfold rRaw
  split
  · simp
  · split
    · simp
    · split
      · simp
      · rw [List.length_take]; omega
/-- The state of Tree's loop: what is done, then what is to be filled. -/
structure TF (w0 wr : World) (g : Nat) (v1 v2 : Value) (l : List FileD) (z : List Int) (r : RS) : Prop where
  o1 : OwnN encF 3 wr w0.heap.size 33 v1 l
  o2 : OwnN encZ 1 wr w0.heap.size 3 v2 z
  rd : Rd wr g r
  bel : Below w0.heap.size w0 wr
  lt : w0.heap.size ≤ g
section
variable {w0 wr w' : World} {g : Nat} {v1 v2 : Value} {l : List FileD} {z : List Int} {r r' : RS}
theorem own_ne_rd {α : Type} {enc : α → List Value} {k : Nat} {w : World} {base g : Nat} {e : TypeId} {v : Value} {xs : List α} {s : RS} (h : OwnN enc k w base e v xs) (hr : Rd w g s) (he : e ≠ 94) : ∀ g', v.ownBlock = some g' → g' ≠ g := by
  rintro g' hg' rfl
  obtain ⟨_, _, cur, hc⟩ := h.lt hg'
  rw [show w.heap[g']? = _ from hr] at hc
  injection hc with hc
  injection hc with _ hc _
  exact he hc.symm
theorem TF.does (T : TF w0 wr g v1 v2 l z r) (hr : Rd w' g r') (hk : Kept (· = g) wr w') : TF w0 w' g v1 v2 l z r' :=
  ⟨T.o1.kept hk (own_ne_rd T.o1 T.rd (by decide)), T.o2.kept hk (own_ne_rd T.o2 T.rd (by decide)), hr, T.bel.trans (hk.below T.bel.size (fun k e => by have := T.lt; omega)), T.lt⟩
theorem TF.new (T : TF w0 wr g v1 v2 l z r) (hb : Below wr.heap.size wr w') : TF w0 w' g v1 v2 l z r :=
  ⟨T.o1.new hb, T.o2.new hb, T.rd.kept (Kept.new hb (fun _ => False)) id, T.bel.trans (hb.mono T.bel.size), T.lt⟩
theorem TF.put {gl n c : Nat} (T : TF w0 wr g (.slice (some ⟨gl, 0, none⟩) n c) v2 l z r) (i : Nat) (hi : i < l.length) (d : Txt) :
    TF w0 (wr.setCell ⟨gl, i * 3 + 2, none⟩ (.string ⟨d.toArray⟩)) g (.slice (some ⟨gl, 0, none⟩) n c) v2 (l.set i ⟨l[i].path, l[i].mode, d⟩) z r := by
  obtain ⟨h1, h2⟩ := OwnN.put encF_ok T.o1 i 2 (.string ⟨d.toArray⟩) ⟨l[i].path, l[i].mode, d⟩ hi (by decide) rfl
  have hl := T.o1.lt (g := gl) rfl
  exact ⟨h1, T.o2.kept h2 (fun g' hg e => own_apart T.o1 T.o2 (by decide) (g := gl) rfl (e ▸ hg)), T.rd.kept h2 (fun e => own_ne_rd T.o1 T.rd (by decide) gl rfl e.symm), T.bel.trans (h2.below T.bel.size (fun k e => by omega)), T.lt⟩
end
set_option maxRecDepth 100000 in
set_option maxHeartbeats 2000000 in
theorem iTreeO_any (s : Txt) (w : World) (hs : s.length ≤ 1000000) :
    Calls Tryd.prog 17 #[.string ⟨s.toArray⟩] w fun e w' => ∃ v', e = .returned (.tuple #[v', .int .i64 (treeS s).2]) ∧ OwnN encF 3 w' w.heap.size 33 v' (treeS s).1 ∧ Below w.heap.size w w' := by
  have HSZ := Lib.hid (show (⟨s.toArray⟩ : ByteArray).size = s.length from rfl)
  by_cases hbig : 524288 < s.length
  · have HR := Lib.hid (show treeS s = ([], 4) from if_pos hbig)
    have jb : (524288 : Int) < (s.length : Int) := by omega
    generalize treeS s = res at *
    clear hbig
    go_enter Tryd.func17, Tryd.ntmps17
    go_wp2_with fail
    go_ret2
    exact ⟨_, by rw [HR.out]; rfl, by rw [HR.out]; exact OwnN.nil _ _ _ _ _, Below.refl _ _⟩
  · have jb : ¬ (524288 : Int) < (s.length : Int) := by omega
    have HR := Lib.hid (show treeS s = if (toldS s).e ≠ 0 then ([], (toldS s).e) else fillF (toldS s).l (toldS s).rest [] from if_neg hbig)
    obtain ⟨hto, htl⟩ := toldS_ok s
    have HTO := Lib.hid hto
    have RD := Lib.hid (read_any s w)
    have TL := Lib.hid (fun w' g (h : Rd w' g ⟨s, 0⟩) => readTold_any w' g s h)
    generalize treeS s = res at *
    generalize toldS s = td at *
    clear hbig hto
    go_enter Tryd.func17, Tryd.ntmps17
    go_wp2_with fail
    refine RD.out.mono ?_
    rintro e w1 ⟨rfl, hr1, hb1⟩
    have TL1 := Lib.hid (TL.out w1 _ hr1)
    have HB1 := Lib.hid hb1
    have hgs := hr1.lt
    clear hr1 hb1 RD TL
    obtain ⟨g, hg⟩ : ∃ g, g = w.heap.size := ⟨_, rfl⟩
    rw [← hg] at TL1 hgs ⊢
    have hgw : w.heap.size ≤ g := by omega
    clear hg
    go_wp2_with fail
    refine TL1.out.mono ?_
    rintro e w2 ⟨v1, v2, r', rfl, hr, hT⟩
    obtain ⟨va, vm, vc, hv⟩ := own_slice hT.o1
    subst hv
    obtain ⟨za, zm, zc, hv⟩ := own_slice hT.o2
    subst hv
    have HRR := Lib.hid hr
    have T2 := Lib.hid (show TF w w2 g (.slice va vm vc) (.slice za zm zc) (td.l.map bare) (td.l.map (·.size)) r' from
      ⟨hT.o1.mono HB1.out.size, hT.o2.mono HB1.out.size, hT.rd, HB1.out.trans (hT.kp.below HB1.out.size (fun k e => by omega)), hgw⟩)
    clear hT hr TL1
    by_cases hte : td.e = 0
    · have q1 : (td.e != 0) = false := by simp [hte]
      rw [if_neg (fun k => k hte)] at HR
      have hr0 := HRR.out hte
      subst hr0
      have HFI := Lib.hid (fillF_is td.l ⟨td.rest, 0⟩ [] (fun x hx => (HTO.out x hx).2.2.2.1) rfl)
      have hzl : zm = td.l.length := by
        have := T2.out.o2.2
        rcases this with ⟨h', hn⟩ | ⟨g', cap', cur, h', _⟩
        · simp at h' hn; rw [h'.2.1, hn]; rfl
        · simp at h'; exact h'.2.1
      subst hzl
      have RL := Lib.hid (show ([] : List FileD) ++ (fillR (td.l.drop 0) ⟨td.rest, 0⟩).1 = (fillR td.l ⟨td.rest, 0⟩).1 ∧ (fillR (td.l.drop 0) ⟨td.rest, 0⟩).2 = (fillR td.l ⟨td.rest, 0⟩).2 from ⟨rfl, rfl⟩)
      have hokr : (⟨td.rest, 0⟩ : RS).ok := .inl rfl
      have T3 := Lib.hid (show TF w w2 g (.slice va vm vc) (.slice za td.l.length zc) ([] ++ (td.l.drop 0).map bare) (td.l.map (·.size)) ⟨td.rest, 0⟩ from T2.out)
      rw [HFI.out] at HR
      generalize fillR td.l ⟨td.rest, 0⟩ = FIN at *
      generalize td.rest = rest at *
      generalize td.e = te at *
      generalize td.l = tl at *
      clear hte HRR HFI T2
      go_wp2_with fail
      go_loopw [27] (fun v27 wr => ∃ (i : Nat) (done : List FileD) (r : RS), i ≤ tl.length ∧ v27 = .int .i64 i ∧ done.length = i ∧ TF w wr g (.slice va vm vc) (.slice za tl.length zc) (done ++ (tl.drop i).map bare) (tl.map (·.size)) r ∧ Hid (done ++ (fillR (tl.drop i) r).1 = FIN.1 ∧ (fillR (tl.drop i) r).2 = FIN.2) ∧ r.ok) (fun v27 _ => tl.length - (intOf v27).toNat)
      case atStart => exact ⟨0, [], _, by omega, rfl, rfl, T3.out, RL, hokr⟩
      case round =>
        clear T3 RL hokr
        obtain ⟨i, done, r, hi, rfl, hdl, hT, HA, hok⟩ := hrel
        have T := Lib.hid hT
        have HDL := Lib.hid hdl
        clear hT hdl
        have i0 : (0 : Int) ≤ (i : Int) := by omega
        by_cases hlt : i < tl.length
        · have j1 : (i : Int) < (tl.length : Int) := by omega
          have HD := Lib.hid (show tl.drop i = tl[i] :: tl.drop (i + 1) from List.drop_eq_getElem_cons hlt)
          have HX := Lib.hid (HTO.out tl[i] (List.getElem_mem hlt))
          have hzne : tl.map (·.size) ≠ [] := fun h => by
            have := congrArg List.length h
            rw [List.length_map, List.length_nil] at this
            omega
          have hzr := (OwnN.at encZ_ok T.out.o2 hzne)
          obtain ⟨zg, zc', hze, _, _, _, hzel, _⟩ := hzr
          injection hze with ha hb hc
          subst ha
          clear hb hc
          have cz := hzel i (by rw [List.length_map]; exact hlt) 0 _ rfl
          rw [Nat.mul_one, Nat.add_zero, List.getElem_map] at cz
          have hll : (done ++ (tl.drop i).map bare).length = tl.length := by rw [List.length_append, HDL.out, List.length_map, List.length_drop]; omega
          have hne : done ++ (tl.drop i).map bare ≠ [] := by
            intro h
            rw [h, List.length_nil] at hll
            omega
          obtain ⟨fg, fc, hfe, hfc, _, _, hfel, hfr⟩ := OwnN.at encF_ok T.out.o1 hne
          injection hfe with ha hb2 hc2
          rw [hll] at hb2 hfc
          subst ha hb2 hc2
          have HIL := Lib.hid (show i < (done ++ (tl.drop i).map bare).length by rw [hll]; exact hlt)
          have c0 := hfel i HIL.out 2 (.string ⟨(done ++ (tl.drop i).map bare)[i].data.toArray⟩) rfl
          have f0 := hfr (i * 3 + 2)
          have HEL := Lib.hid (show (done ++ (tl.drop i).map bare)[i]'HIL.out = bare tl[i] by
            rw [List.getElem_append_right (by rw [HDL.out]; exact Nat.le_refl _)]
            simp [HDL.out])
          have HSET := Lib.hid (fun d : Txt => show (done ++ (tl.drop i).map bare).set i ⟨((done ++ (tl.drop i).map bare)[i]'HIL.out).path, ((done ++ (tl.drop i).map bare)[i]'HIL.out).mode, d⟩ = (done ++ [⟨tl[i].path, tl[i].mode, d⟩]) ++ (tl.drop (i + 1)).map bare by
            rw [HEL.out]
            show (done ++ (tl.drop i).map bare).set i ⟨tl[i].path, tl[i].mode, d⟩ = _
            rw [HD.out, List.map_cons, List.set_append_right _ _ (by rw [HDL.out]; exact Nat.le_refl _), HDL.out, Nat.sub_self, List.set_cons_zero, List.append_assoc]
            rfl)
          have PUT := Lib.hid (fun wq d (h : TF w wq g (.slice (some ⟨fg, 0, none⟩) tl.length vc) (.slice (some ⟨zg, 0, none⟩) tl.length zc) (done ++ (tl.drop i).map bare) (tl.map (·.size)) (rRaw r tl[i].size).2) => h.put i HIL.out d)
          have RW := Lib.hid (fun w' (h : Rd w' g r) => raw_any w' g r tl[i].size h hok)
          have hokn := rRaw_ok r tl[i].size hok
          have hdl := rRaw_len r tl[i].size HX.out.2.2.2.2
          have HN := Lib.hid (show (done ++ [⟨tl[i].path, tl[i].mode, (rRaw r tl[i].size).1⟩]) ++ (fillR (tl.drop (i + 1)) (rRaw r tl[i].size).2).1 = FIN.1 ∧ (fillR (tl.drop (i + 1)) (rRaw r tl[i].size).2).2 = FIN.2 by
            have h := HA.out
            rw [HD.out] at h
            rw [List.append_assoc]
            exact h)
          have i1 : (i : Int) < (tl.length : Int) := j1
          have HKO := Lib.hid hokn
          have HDL2 := Lib.hid (show (done ++ [(⟨tl[i].path, tl[i].mode, (rRaw r tl[i].size).1⟩ : FileD)]).length = i + 1 by rw [List.length_append, HDL.out]; rfl)
          have CP := fun w' => Lib.hid (tclone_any (rRaw r tl[i].size).1 w' (by omega))
          generalize (rRaw r tl[i].size).1 = d at *
          generalize (rRaw r tl[i].size).2 = r2 at *
          generalize tl[i].size = sz at *
          clear HD HX hzne hzel hfel hll hne hfc hok hokn HA HEL c0 f0 hfr i1
          go_wp2_with fail
          refine (RW.out _ T.out.rd).mono ?_
          rintro e w3 ⟨rfl, hr3, hk3⟩
          have T3 := Lib.hid (T.out.does hr3 hk3)
          clear hr3 hk3 RW T
          go_wp2_with fail
          refine (CP _).out.mono ?_
          rintro e w4 ⟨rfl, hb4⟩
          have T4 := Lib.hid (T3.out.new hb4)
          clear hb4 T3 CP cz
          have hne : done ++ (tl.drop i).map bare ≠ [] := fun h => by have := HIL.out; rw [h] at this; simp at this
          obtain ⟨_, _, hfe, _, _, _, hfel, hfr⟩ := OwnN.at encF_ok T4.out.o1 hne
          injection hfe with ha hb2 hc2
          injection ha with ha
          injection ha with ha
          subst ha
          have c0 := hfel i HIL.out 2 (.string ⟨(done ++ (tl.drop i).map bare)[i].data.toArray⟩) rfl
          have f0 := hfr (i * 3 + 2)
          have T5 := Lib.hid (PUT.out _ d T4.out)
          rw [HSET.out] at T5
          clear hfel hfr hne hb2 hc2 PUT HSET
          generalize (done ++ (tl.drop i).map bare)[i].data = od at *
          go_wp2_with fail
          go_roundw
          case rel => exact ⟨i + 1, _, r2, by omega, by go_num, HDL2.out, T5.out, HN, HKO.out⟩
          case measure => simp [intOf]; omega
        · obtain rfl : i = tl.length := by omega
          have j1 : ¬ (tl.length : Int) < (tl.length : Int) := by omega
          have hdr : tl.drop tl.length = [] := List.drop_eq_nil_of_le (Nat.le_refl _)
          rw [hdr] at HA T
          rw [List.map_nil, List.append_nil] at T
          have h1 : done = FIN.1 := by have := HA.out.1; rw [show (fillR [] r).1 = [] from rfl, List.append_nil] at this; exact this
          have h2 : r = FIN.2 := HA.out.2
          rw [← h1, ← h2] at HR
          have EN := Lib.hid (end_any _ g r T.out.rd)
          clear HA hdr h1 h2
          generalize (rEnd r).e = ee at *
          generalize rEnd r = r9 at *
          go_wp2_with fail
          refine EN.out.mono ?_
          rintro e w3 ⟨rfl, hr3, hk3⟩
          have T3 := Lib.hid (T.out.does hr3 hk3)
          clear hr3 hk3 EN T
          by_cases hee : ee = 0
          · have q2 : (ee != 0) = false := by simp [hee]
            rw [if_neg (fun k => k hee)] at HR
            clear hee
            go_wp2_with fail
            go_ret2
            exact ⟨_, by rw [HR.out]; rfl, by rw [HR.out]; exact T3.out.o1, T3.out.bel⟩
          · have q2 : (ee != 0) = true := by simp [hee]
            rw [if_pos hee] at HR
            clear hee
            go_wp2_with fail
            go_ret2
            exact ⟨_, by rw [HR.out]; rfl, by rw [HR.out]; exact OwnN.nil _ _ _ _ _, T3.out.bel⟩
    · have q1 : (td.e != 0) = true := by simp [hte]
      rw [if_pos hte] at HR
      generalize td.e = te at *
      clear hte
      go_wp2_with fail
      go_ret2
      exact ⟨_, by rw [HR.out]; rfl, by rw [HR.out]; exact OwnN.nil _ _ _ _ _, T2.out.bel⟩
theorem iTree_any (s : Txt) (w : World) (hs : s.length ≤ 1000000) :
    Calls Tryd.prog 17 #[.string ⟨s.toArray⟩] w fun e w' => ∃ v', e = .returned (.tuple #[v', .int .i64 (treeS s).2]) ∧ RowN encF 3 (fun _ => True) w' v' (treeS s).1 ∧ Below w.heap.size w w' := by
  refine (iTreeO_any s w hs).mono ?_
  rintro e w' ⟨v, h1, h2, h3⟩
  exact ⟨v, h1, (OwnN.row encF_ok h2).mono (fun _ _ => trivial), h3⟩
end Go.Proofs.YtfgimhgkjodcgaaDoor
