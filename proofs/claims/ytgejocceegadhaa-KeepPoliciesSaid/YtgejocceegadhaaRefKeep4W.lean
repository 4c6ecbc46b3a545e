/- The document's keep: Road. -/
import Derived.Test.YtgejocceegadhaaFrame
import Derived.Test.YtgejocceegadhaaGen
import Derived.Test.YtgejocceegadhaaKeepMath
import Derived.Test.YtgejocceegadhaaOwnL
import Derived.Test.YtgejocceegadhaaRefKeep2W
import Derived.Test.YtgejocceegadhaaRefKeep3W
import Derived.Test.YtgejocceegadhaaRefKeepW
import Derived.Test.YtgejocceegadhaaRowN
import Derived.Test.YtgejocceegadhaaRows
import Derived.BigQuiet
import Derived.Deep.QuietTactic
import Derived.Deep.RegionHeld3
set_option linter.unusedVariables false
namespace Go.Proofs.Ytgejocceegadhaa
open Go.RowKit

theorem info_int12 : (Try.prog.info? 3).map (fun i => (i.zero, i.size, i.bytes)) = some (some (.int .i64 0), 1, 8) := by kernel_rfl
theorem own_one12 (w : World) (base : Nat) (g : Int) (hb : base ≤ w.heap.size) : OwnN encI1 1 (w.alloc (.cells #[.int .i64 g] 3)) base 3 (.slice (some ⟨w.heap.size, 0, none⟩) 1 1) [g] :=
  ⟨rfl, .inr ⟨w.heap.size, 1, #[.int .i64 g], rfl, hb, heap_alloc_new w _, Nat.le_refl _, by unfold maxLen; omega, rfl, rfl⟩⟩
theorem chkG_bad : ∀ {l : List GenD} {i : Nat} (hi : i < l.length), chkG [] l = 0 → badG (l.take i) l[i] = 0 := fun {l i} hi h => by
  have h1 := chkG_take l [] i h
  obtain ⟨a, _⟩ := chk_step hi h1
  by_cases c : badG (l.take i) l[i] = 0
  · exact c
  · have := a c
    rw [h] at this
    exact absurd this.symm c
theorem check_bad {l : List GenD} (h : checkG l = 0) {i : Nat} (hi : i < l.length) : badG (l.take i) l[i] = 0 := by
  unfold checkG at h
  split at h
  · cases h
  · exact chkG_bad hi h
/-- What a right generation hangs on is there. -/
theorem check_basis {l : List GenD} (h : checkG l = 0) {i : Nat} (hi : i < l.length) (hb : l[i].basis ≠ l[i].gen) : atN (l.take i) l[i].basis < (l.take i).length := by
  rw [atN_lt]
  have := check_bad h hi
  unfold badG at this
  split at this
  · cases this
  · split at this
    · cases this
    · split at this
      · cases this
      · rename_i c
        exact Classical.byContradiction fun k => c ⟨hb, k⟩
theorem roadF_fuel : ∀ (f k : Nat) (l : List GenD) (g : Int), l.length < f → l.length < k → roadF f l g = roadF k l g
  | 0, _, _, _, h, _ => by omega
  | _, 0, _, _, _, h => by omega
  | f + 1, k + 1, l, g, h1, h2 => by
    unfold roadF
    cases hx : l[atN l g]? with
    | none => rfl
    | some x =>
      dsimp only
      have hlt : atN l g < l.length := (List.getElem?_eq_some_iff.1 hx).1
      have hl : (l.take (atN l g)).length = atN l g := by rw [List.length_take]; omega
      rw [roadF_fuel f k (l.take (atN l g)) x.basis (by omega) (by omega)]
theorem roadL_step {l : List GenD} {g : Int} (h : atN l g < l.length) : roadL l g = if l[atN l g].basis = g then [g] else roadL (l.take (atN l g)) l[atN l g].basis ++ [g] := by
  have hl : (l.take (atN l g)).length = atN l g := by rw [List.length_take]; omega
  unfold roadL
  rw [roadF, List.getElem?_eq_getElem h]
  dsimp only
  rw [roadF_fuel l.length ((l.take (atN l g)).length + 1) _ _ (by omega) (by omega)]
theorem roadL_len : ∀ (n : Nat) (l : List GenD) (g : Int), l.length ≤ n → (roadL l g).length ≤ l.length
  | 0, l, g, h => by
    have : l = [] := List.eq_nil_of_length_eq_zero (by omega)
    subst this
    exact Nat.le_refl _
  | n + 1, l, g, h => by
    by_cases c : atN l g < l.length
    · rw [roadL_step c]
      split
      · simp; omega
      · have hl : (l.take (atN l g)).length = atN l g := by rw [List.length_take]; omega
        have := roadL_len n (l.take (atN l g)) l[atN l g].basis (by omega)
        rw [List.length_append]
        simp
        omega
    · have : l[atN l g]? = none := List.getElem?_eq_none (by omega)
      unfold roadL
      rw [roadF, this]
      exact Nat.zero_le _
set_option maxRecDepth 100000 in
set_option maxHeartbeats 4000000 in
theorem road_step12 (v : Value) (l : List GenD) (g : Int) (w : World) {N : Nat → Prop} (hrow : RowN encGn 4 N w v l) (hl : l.length ≤ 140737488351232) (hok : ∀ x ∈ l, GenOk x)
    (rec : ∀ i, i < l.length → ∀ (v' : Value) (g' : Int) (w' : World) (M : Nat → Prop), RowN encGn 4 M w' v' (l.take i) → Calls Try.prog 20 #[v', .int .i64 g'] w' fun e w'' => ∃ v'', e = .returned (.tuple #[v'', .int .i64 (roadE (l.take i) g')]) ∧ OwnN encI1 1 w'' w'.heap.size 3 v'' (roadG (l.take i) g') ∧ Below w'.heap.size w' w'') :
    Calls Try.prog 20 #[v, .int .i64 g] w fun e w' => ∃ v', e = .returned (.tuple #[v', .int .i64 (roadE l g)]) ∧ OwnN encI1 1 w' w.heap.size 3 v' (roadG l g) ∧ Below w.heap.size w w' := by
  have HR := Lib.hid hrow
  have REC := Lib.hid rec
  have CH := Lib.hid (refCheck12_any v l w hrow hl hok)
  obtain ⟨va, vc, hv, hvc⟩ := hrow.slice
  subst hv
  clear hrow rec
  by_cases hc : checkG l = 0
  · have hlen : l.length ≤ 4096 := by
      unfold checkG at hc
      split at hc
      · cases hc
      · omega
    have AT := fun X (hX : Below w.heap.size w X) => Lib.hid (refAt12_any (.slice va l.length vc) l g X (HR.out.keep hX) hl)
    have HCK := Lib.hid hc
    rw [hc] at CH
    clear hc
    by_cases hin : atN l g < l.length
    · have hz : atZ l g = (atN l g : Int) := by unfold atZ; rw [if_pos hin]
      have HE := Lib.hid (show roadE l g = 0 by unfold roadE; rw [if_neg (by rw [HCK.out]; simp), if_pos hin])
      have HG := Lib.hid (show roadG l g = if l[atN l g].basis = g then [g] else roadL (l.take (atN l g)) l[atN l g].basis ++ [g] by unfold roadG; rw [if_neg (by rw [HE.out]; simp), roadL_step hin])
      have HBS := Lib.hid (fun (hb : l[atN l g].basis ≠ g) => show roadG (l.take (atN l g)) l[atN l g].basis = roadL (l.take (atN l g)) l[atN l g].basis from by
        have h1 := checkG_take HCK.out (atN l g)
        have h2 := check_basis HCK.out hin (by rw [atN_get hin]; exact hb)
        have h3 : roadE (l.take (atN l g)) l[atN l g].basis = 0 := by unfold roadE; rw [if_neg (by rw [h1]; simp), if_pos h2]
        unfold roadG
        rw [if_neg (by rw [h3]; simp)])
      have HRL := Lib.hid (roadL_len (l.take (atN l g)).length (l.take (atN l g)) l[atN l g].basis (Nat.le_refl _))
      have RC := Lib.hid (REC.out (atN l g) hin)
      obtain ⟨b, o, c', hv, hn, hel⟩ := HR.out.at hin
      injection hv with ea eb ec
      subst ea; subst ec
      clear eb
      have HTK := Lib.hid (fun X (hX : Below w.heap.size w X) => (HR.out.keep hX).take (atN l g) (by omega))
      have hlt : (l.take (atN l g)).length = atN l g := by rw [List.length_take]; omega
      rw [hlt] at HRL
      simp only [hz] at AT
      generalize hi : atN l g = i at *
      generalize hx : l[i] = x at *
      obtain ⟨xg, xb, xn, xm⟩ := x
      have d1 := hel 1 _ rfl
      dsimp only at d1 HG HBS HRL
      clear hel hi hx hz REC
      have i0 : (0 : Int) ≤ (i : Int) := by omega
      have j1 : (i : Int) < (l.length : Int) := by omega
      have ivc : (i : Int) ≤ (vc : Int) := by omega
      go_enter Try.func20, Try.ntmps20
      go_wp2_with fail
      refine CH.out.mono ?_
      rintro e w1 ⟨rfl, hb1⟩
      have HB1 := Lib.hid hb1
      have AT1 := AT w1 hb1
      clear hb1 CH AT
      go_wp2_with fail
      refine AT1.out.mono ?_
      rintro e w2 ⟨rfl, ew⟩
      subst ew
      clear AT1
      have d1' := (HB1.out.cell (p := ⟨b, o + i * 4 + 1, none⟩) (World.block_lt_of_cell? w _ d1)).trans d1
      by_cases hb : xb = g
      · have q1 : (xb == g) = true := by simp [hb]
        have HG1 := Lib.hid (HG.out.trans (if_pos hb))
        have HO := Lib.hid (own_one12 w1 w.heap.size g HB1.out.size)
        have HBA := Lib.hid (HB1.out.trans ((Below.alloc (Below.refl w1.heap.size w1) (Nat.le_refl _) (.cells #[.int .i64 g] 3)).mono HB1.out.size))
        clear hb HG HBS
        go_wp2_with fail
        go_ret2
        exact ⟨_, by rw [HE.out]; rfl, by rw [HG1.out]; exact HO.out, HBA.out⟩
      · have q1 : (xb == g) = false := by simp [hb]
        have HG1 := Lib.hid (HG.out.trans (if_neg hb))
        have HBS1 := Lib.hid (HBS.out hb)
        clear hb HG HBS
        have HBD := Lib.hid (HB1.out.trans ((Below_drew (Below.refl w1.heap.size w1)).mono HB1.out.size))
        have d1d : w1.drew.cell? ⟨b, o + i * 4 + 1, none⟩ = some (.int .i64 xb) := d1'
        have RC1 := Lib.hid (RC.out (.slice (some ⟨b, o, none⟩) i vc) xb w1.drew _ (HTK.out _ HBD.out))
        rw [HBS1.out] at RC1
        clear RC HTK
        go_wp2_with fail
        go_region_held3 (fun w' => w'.cell? ⟨b, o + i * 4 + 1, none⟩ = some (.int .i64 xb))
          (first | assumption | go_keep)
          (first
            | (go_at_call 20; refine RC1.out.mono ?_; rintro e w3 ⟨v3, rfl, ho3, hb3⟩; have HB3 := Lib.hid (HBD.out.trans (hb3.mono HBD.out.size)); have HO3 := Lib.hid (ho3.mono HBD.out.size); have d13 := (hb3.cell (p := ⟨b, o + i * 4 + 1, none⟩) (World.block_lt_of_cell? w1.drew _ d1d)).trans d1d; clear ho3 hb3))
        go_split_ands
        clear RC1 HBD d1d d13 HBS1
        generalize hrr : roadL (l.take i) xb = rr at *
        generalize roadE (l.take i) xb = re at *
        clear hrr
        have hsz := HB3.out.size
        have hrl := HRL.out
        go_wp2_with (at_builtin; go_loud (refine append_new (enc := encI1) (k := 1) (w := w3) (by rfl) (.tmp 41) (.tmp 43) 34 3 (.int .i64 0) 8 (by rfl) Try.underlying34 info_int12 (by rfl) (by decide) encI1_ok w.heap.size _ rr g (by rfl) HO3.out (by rfl) (by omega) (by unfold maxLen; omega) hsz _ (by rfl) ?_; intro v7 w7 hown7 ht7; have HO7 := Lib.hid hown7; have HB7 := Lib.hid (HB3.out.trans ht7.bel); clear hown7 ht7))
        go_ret2
        exact ⟨_, by rw [HE.out]; rfl, by rw [HG1.out]; exact HO7.out, HB7.out⟩
    · have hz : atZ l g = -1 := by unfold atZ; rw [if_neg hin]
      have HE := Lib.hid (show roadE l g = 8 by unfold roadE; rw [if_neg (by rw [HCK.out]; simp), if_neg hin])
      have HG := Lib.hid (show roadG l g = [] by unfold roadG; rw [if_pos (by rw [HE.out]; decide)])
      simp only [hz] at AT
      obtain ⟨z, hz1, hz2⟩ : ∃ z : Int, z = -1 ∧ z < 0 := ⟨-1, rfl, by decide⟩
      rw [← hz1] at AT
      clear hz hz1 hin REC
      go_enter Try.func20, Try.ntmps20
      go_wp2_with fail
      refine CH.out.mono ?_
      rintro e w1 ⟨rfl, hb1⟩
      have HB1 := Lib.hid hb1
      have AT1 := AT w1 hb1
      clear hb1 CH AT
      go_wp2_with fail
      refine AT1.out.mono ?_
      rintro e w2 ⟨rfl, ew⟩
      subst ew
      go_wp2_with fail
      go_ret2
      exact ⟨_, by rw [HE.out]; rfl, by rw [HG.out]; exact OwnN.nil _ _ _ _ _, HB1.out⟩
  · have HE := Lib.hid (show roadE l g = checkG l by unfold roadE; rw [if_pos hc])
    have HG := Lib.hid (show roadG l g = [] by unfold roadG; rw [if_pos (by rw [HE.out]; exact hc)])
    have q1 : (checkG l != 0) = true := by simp [hc]
    rw [HE.out]
    generalize checkG l = ce at *
    clear hc HE REC
    go_enter Try.func20, Try.ntmps20
    go_wp2_with fail
    refine CH.out.mono ?_
    rintro e w1 ⟨rfl, hb1⟩
    have HB1 := Lib.hid hb1
    clear hb1 CH
    go_wp2_with fail
    go_ret2
    exact ⟨_, rfl, by rw [HG.out]; exact OwnN.nil _ _ _ _ _, HB1.out⟩
set_option maxRecDepth 100000 in
set_option maxHeartbeats 4000000 in
theorem refRoad12_any : ∀ (n : Nat) (v : Value) (l : List GenD) (g : Int) (w : World) {N : Nat → Prop}, l.length ≤ n → RowN encGn 4 N w v l → l.length ≤ 140737488351232 → (∀ x ∈ l, GenOk x) →
    Calls Try.prog 20 #[v, .int .i64 g] w fun e w' => ∃ v', e = .returned (.tuple #[v', .int .i64 (roadE l g)]) ∧ OwnN encI1 1 w' w.heap.size 3 v' (roadG l g) ∧ Below w.heap.size w w' := by
  intro n
  induction n with
  | zero => exact fun v l g w N hn hrow hl hok => road_step12 v l g w hrow hl hok (fun i hi => absurd hi (by omega))
  | succ n ih => exact fun v l g w N hn hrow hl hok => road_step12 v l g w hrow hl hok (fun i hi v' g' w' M hr => ih v' (l.take i) g' w' (by rw [List.length_take]; omega) hr (by rw [List.length_take]; omega) (fun x hx => hok x (List.mem_of_mem_take hx)))
end Go.Proofs.Ytgejocceegadhaa
