/- The walk of the law MarksApart. -/
import Derived.Test.YtbiahhngeldhbaaHonestW
import Derived.Deep.RegionHeld3
set_option linter.unusedVariables false
namespace Go.Proofs.Ytbiahhngeldhbaa
open Go.RowKit

/-- The marks of the first so many. -/
def mL (ys : List Txt) (k : Nat) : List Txt := (ys.take k).map fun y => numM (noS (seenS ys) y)
theorem mL_length (ys : List Txt) (k : Nat) (h : k ≤ ys.length) : (mL ys k).length = k := by unfold mL; rw [List.length_map, List.length_take]; omega
theorem mL_step (ys : List Txt) (k : Nat) (h : k < ys.length) : mL ys (k + 1) = mL ys k ++ [numM (noS (seenS (ys.take k)) ys[k])] := by
  unfold mL
  rw [List.take_succ_eq_append_getElem h, List.map_append, noS_later ys k h]
  rfl
theorem own_off {w w' : World} {M : Nat → Prop} {base : Nat} {e : TypeId} {size : Nat} {v : Value} {n : Nat} {xs : List Value} (h : w.ownsRow base e size v n xs) (hk : Kept M w w')
    (hm : ∀ g cur, w.heap[g]? = some (.cells cur e (0, 0)) → v.ownBlock = some g → ¬ M g) : w'.ownsRow base e size v n xs := by
  refine ⟨h.1, ?_⟩
  rcases h.2 with hn | ⟨g, cap, cur, rfl, hg, hgg, rest⟩
  · exact .inl hn
  · exact .inr ⟨g, cap, cur, rfl, hg, hk.old hgg (hm g cur hgg rfl), rest⟩
theorem own_after {w1 w2 : World} {base : Nat} {e : TypeId} {v : Value} {xs : List (List UInt8)} (h : OwnL encT w1 base e v xs) (hb : Below w1.heap.size w1 w2) : OwnL encT w2 base e v xs :=
  own_off h (Kept.of_below hb) (fun g cur hg _ hm => absurd (Array.getElem?_eq_some_iff.1 hg).1 (by omega))
/-- A map's block is no list's. -/
theorem IdealAt.no_cells {w : World} {p bm : Nat} {S : List Txt} (h : IdealAt w p bm S) {cur : Array Value} {e : TypeId} {fr : Nat × Nat} : w.heap[bm]? ≠ some (.cells cur e fr) := by
  obtain ⟨D, ⟨es, cl, hb, _⟩, _⟩ := h.map
  rw [hb]
  intro h
  cases h
theorem own_mark {w w' : World} {p bm base : Nat} {S : List Txt} {v : Value} {e : TypeId} {xs : List Txt} (h : IdealAt w p bm S) (hown : OwnL encT w base e v xs) (hk : Kept (· = bm) w w') : OwnL encT w' base e v xs :=
  own_off hown hk (fun g cur hg _ hm => by subst hm; exact h.no_cells hg)
theorem IdealAt.appended {w w' : World} {p bm base : Nat} {S : List Txt} {v : Value} {e : TypeId} {xs : List Txt} (h : IdealAt w p bm S) (hown : OwnL encT w base e v xs) (he : e ≠ 46) (hk : Kept (fun k => some k = v.ownBlock) w w') : IdealAt w' p bm S := by
  have key : ∀ g, some g = v.ownBlock → ∃ cur, w.heap[g]? = some (.cells cur e (0, 0)) := by
    intro g hg
    rcases hown.2 with ⟨rfl, _⟩ | ⟨g', cap, cur, rfl, _, hgg, _⟩
    · simp [Value.ownBlock] at hg
    · simp [Value.ownBlock] at hg
      subst hg
      exact ⟨cur, hgg⟩
  refine h.kept hk ?_ ?_
  · intro hp
    obtain ⟨cur, hcur⟩ := key p hp
    have := h.book
    unfold BookAt at this
    rw [hcur] at this
    simp at this
    exact he this.2
  · intro hp
    obtain ⟨cur, hcur⟩ := key bm hp
    exact h.no_cells hcur

theorem info_str : (Try.prog.info? 9).map (fun i => (i.zero, i.size, i.bytes)) = some (some (.string ByteArray.empty), 1, 16) := by kernel_rfl

/-- What holds in every world of the region that compares: four cells, and that nothing that was there has turned. -/
def Four (W0 : World) (a1 a2 a3 a4 : Addr) (x1 x2 x3 x4 : Txt) (w : World) : Prop :=
  w.cell? a1 = some (encT x1) ∧ w.cell? a2 = some (encT x2) ∧ w.cell? a3 = some (encT x3) ∧ w.cell? a4 = some (encT x4) ∧ Below W0.heap.size W0 w
theorem four_kept {W0 w1 w2 : World} {a1 a2 a3 a4 : Addr} {x1 x2 x3 x4 : Txt} (h1 : w1.cell? a1 = some (encT x1)) (h2 : w1.cell? a2 = some (encT x2)) (h3 : w1.cell? a3 = some (encT x3)) (h4 : w1.cell? a4 = some (encT x4))
    (hb : Below W0.heap.size W0 w1) (h : Below w1.heap.size w1 w2) : w2.cell? a1 = some (encT x1) ∧ w2.cell? a2 = some (encT x2) ∧ w2.cell? a3 = some (encT x3) ∧ w2.cell? a4 = some (encT x4) ∧ Below W0.heap.size W0 w2 :=
  ⟨(h.cell (World.block_lt_of_cell? w1 _ h1)).trans h1, (h.cell (World.block_lt_of_cell? w1 _ h2)).trans h2, (h.cell (World.block_lt_of_cell? w1 _ h3)).trans h3, (h.cell (World.block_lt_of_cell? w1 _ h4)).trans h4, below2 hb h⟩

set_option maxRecDepth 100000 in
set_option maxHeartbeats 3200000 in
theorem marksApart_walk (v : Value) (xs : List Txt) (w : World) (hv : Texts w v xs) :
    Calls Try.prog 6 #[v] w fun e w' => e = .returned (.bool true) ∧ Below w.heap.size w w' := by
  have each := hv.each
  have Each := Lib.hid each; clear each
  have hlen := hv.len
  rcases hv.cases2 with ⟨rfl, a, cap, rfl⟩ | ⟨b, off, cap, rfl, hpos, hcap, hb, hc⟩
  · go_enter Try.func6, Try.ntmps6
    go_wp2_with fail
    refine (ideal_any _).mono ?_
    rintro e w1 ⟨p, bm, rfl, hid1, hp, hbm, hb1⟩
    go_wp2_with fail
    refine wp_loop_rounds 1 ?_
    rw [rounds_succ]
    go_wp2_with fail
    refine wp_loop_rounds 1 ?_
    rw [rounds_succ]
    go_wp2_with fail
    refine (awake_any _).mono ?_
    rintro e w5 ⟨rfl, hb5⟩
    go_wp2
    go_ret
    exact ⟨rfl, hb1.trans (hb5.mono hb1.size)⟩
  · obtain ⟨ys, hys⟩ : ∃ ys, ys = xs.take 40 := ⟨_, rfl⟩
    obtain ⟨n, hn⟩ : ∃ n, n = ys.length := ⟨_, rfl⟩
    have hn2 : n = min 40 xs.length := by rw [hn, hys, List.length_take]
    have hcy := cells_take hc 40
    rw [← hys] at hcy
    have HC := Lib.hid hcy; clear hcy hc
    have EachY := Lib.hid (fun y (h : y ∈ ys) => Each.out y (List.mem_of_mem_take (by rw [← hys]; exact h)))
    have HN := Lib.hid hn.symm; clear hn hys
    have HN2 := Lib.hid hn2
    have n40 : n ≤ 40 := by omega
    clear hn2
    go_enter Try.func6, Try.ntmps6
    go_upto_if 10 with (fail)
    go_cut [0] (fun s0 wx => ∃ c, s0 = .slice (some ⟨b, off, none⟩) n c ∧ wx = w)
    case first =>
      by_cases h40 : 40 < xs.length
      · go_wp2_with fail
        go_meet
        have e : n = 40 := by have := HN2.out; omega
        exact ⟨_, by rw [e], rfl⟩
      · go_wp2_with fail
        go_meet
        have e : n = xs.length := by have := HN2.out; omega
        exact ⟨_, by rw [e], rfl⟩
    case rest =>
      obtain ⟨c, rfl, rfl⟩ := hcut
      go_wp2_with fail
      refine (ideal_any _).mono ?_
      rintro e w1 ⟨p, bm, rfl, hid1, hp, hbm, hb1⟩
      have HI := Lib.hid hid1; clear hid1
      go_wp2_with fail
      go_loopw [4, 5] (fun u i wr => ∃ k : Nat, k ≤ n ∧ i = .int .i64 k ∧ OwnL encT wr wc.heap.size 9 u (mL ys k) ∧ IdealAt wr p bm (seenS (ys.take k)) ∧ Below wc.heap.size wc wr) (fun _ i _ => n - (intOf i).toNat)
      case atStart => exact ⟨0, by omega, rfl, OwnL.nil _ _ _ _, HI.out, hb1⟩
      case round =>
        obtain ⟨k, hk, rfl, hown, hid, hbel⟩ := hrel
        have Hown := Lib.hid hown; clear hown
        have HI := Lib.hid hid; clear hid
        have hbw := hbel.size
        by_cases hlt : k < n
        · have hky : k < ys.length := by rw [HN.out]; exact hlt
          have hcell : wr.cell? ⟨b, off + k, none⟩ = some (encT ys[k]) := (hbel.cell (p := ⟨b, off + k, none⟩) hb).trans (HC.out k hky)
          have hxk := EachY.out _ (List.getElem_mem hky)
          have Sk := Lib.hid (seenS_take ys k hky)
          have Ms := Lib.hid (mL_step ys k hky)
          have hml := mL_length ys k (by omega)
          obtain ⟨y, hy⟩ : ∃ y, ys[k] = y := ⟨_, rfl⟩
          rw [hy] at Sk hcell hxk Ms
          clear hy hky
          have hsl := seenS_length (ys.take k)
          have hsl2 : (seenS (ys.take k)).length ≤ 1000000 := by rw [List.length_take] at hsl; omega
          have MK := Lib.hid (mark_ideal wr p bm (seenS (ys.take k)) y HI.out hxk hsl2)
          generalize numM (noS (seenS (ys.take k)) y) = mk at *
          clear hsl hsl2
          have l1 : (mL ys k).length ≤ 40 := by omega
          clear hml
          go_wp2_with fail
          refine MK.out.mono ?_
          rintro e w2 ⟨rfl, hid2, hk2⟩
          have B2 := hbel.trans (below_only hk2 hbw hbm)
          have Hown2 := Lib.hid (own_mark HI.out Hown.out hk2)
          have HI2 := Lib.hid hid2; clear hid2 hcell hk2
          have b2w := B2.size
          go_wp2_with (at_builtin; refine append_elem (enc := encT) (y := mk) rfl _ _ 30 9 (.string ByteArray.empty) 16 (by rfl) Try.underlying30 info_str rfl wc.heap.size _ _ rfl (by rfl) Hown2.out (by rfl) (by omega) (by unfold maxLen; omega) b2w ?_; intro v' w3 hown3 hb3 hk3)
          have Hown3 := Lib.hid hown3; clear hown3
          have HI3 := Lib.hid (HI2.out.appended Hown2.out (by decide) hk3)
          clear hk3
          go_wp2
          go_roundw
          case rel => exact ⟨k + 1, by omega, by go_num, by rw [Ms.out]; exact Hown3.out, by rw [Sk.out]; exact HI3.out, B2.trans hb3⟩
          case measure => simp [intOf]; omega
        · have hkn : k = n := by omega
          obtain rfl : n = k := hkn.symm
          have hidn := HI.out
          have hln := mL_length ys n (by rw [HN.out]; omega)
          rw [show ys.take n = ys from List.take_of_length_le (by rw [HN.out]; omega)] at hidn
          have HIn := Lib.hid hidn; clear hidn HI
          have hrow := Hown.out.row.cases
          rcases hrow with ⟨hnil, a2, cap2, rfl⟩ | ⟨gb, go, cap2, rfl, _, hcm⟩
          · rw [hnil] at hln
            simp at hln
            have := HN2.out
            omega
          · rw [hln]
            have hcm2 : ∀ i (h : i < ys.length), wr.cell? ⟨gb, go + i, none⟩ = some (encT (numM (noS (seenS ys) ys[i]))) := fun i hi => by
              have := hcm i (by rw [hln, ← HN.out]; exact hi)
              rw [this]
              congr 2
              unfold mL
              simp
            have HM := Lib.hid hcm2; clear hcm hcm2 hln Hown
            obtain ⟨W1, rfl⟩ : ∃ W1 : World, W1 = wr := ⟨_, rfl⟩
            have BEL := Lib.hid hbel
            have HCL := Lib.hid (fun (W : World) (hB : Below W1.heap.size W1 W) (k : Nat) (hk : k < ys.length) => show W.cell? ⟨b, off + k, none⟩ = some (encT ys[k]) from (hB.cell (p := ⟨b, off + k, none⟩) (Nat.lt_of_lt_of_le hb hbw)).trans ((hbel.cell (p := ⟨b, off + k, none⟩) hb).trans (HC.out k hk)))
            have HML := Lib.hid (fun (W : World) (hB : Below W1.heap.size W1 W) (k : Nat) (hk : k < ys.length) => show W.cell? ⟨gb, go + k, none⟩ = some (encT (numM (noS (seenS ys) ys[k]))) from (hB.cell (p := ⟨gb, go + k, none⟩) (World.block_lt_of_cell? W1 _ (HM.out k hk))).trans (HM.out k hk))
            clear HM HC hbel
            go_wp2_with fail
            go_loopw [6, 7] (fun i _ wr => ∃ k : Nat, k ≤ n ∧ i = .int .i64 k ∧ Below W1.heap.size W1 wr) (fun i _ _ => n - (intOf i).toNat)
            case atStart => exact ⟨0, by omega, rfl, Below.refl _ _⟩
            case round =>
              obtain ⟨k1, hk1, rfl, hb1⟩ := hrel
              by_cases hlt1 : k1 < n
              · obtain ⟨wo, rfl⟩ : ∃ wo : World, wo = wr := ⟨_, rfl⟩
                have hky1 : k1 < ys.length := by rw [HN.out]; exact hlt1
                go_wp2_with fail
                go_loopw [7] (fun j wr => ∃ q : Nat, q ≤ n ∧ j = .int .i64 q ∧ Below W1.heap.size W1 wr) (fun j _ => n - (intOf j).toNat)
                case atStart => exact ⟨0, by omega, rfl, hb1⟩
                case round =>
                  obtain ⟨q, hq, rfl, hbq⟩ := hrel
                  by_cases hltq : q < n
                  · have hkyq : q < ys.length := by rw [HN.out]; exact hltq
                    have c1 := HML.out wr hbq k1 hky1
                    have c2 := HML.out wr hbq q hkyq
                    have c3 := HCL.out wr hbq k1 hky1
                    have c4 := HCL.out wr hbq q hkyq
                    have hx1 := EachY.out _ (List.getElem_mem hky1)
                    have n40' : ys.length ≤ 1000 := by rw [HN.out]; omega
                    have e1 := marks_same ys k1 q hky1 hkyq n40'
                    have e2 := isS_mark ys k1 q hky1 hkyq n40'
                    have hsl := seenS_length ys
                    unfold encT at c1 c2 c3 c4
                    have HIq := Lib.hid (HIn.out.new hbq)
                    have IS := fun w' h => Lib.hid (is_ideal w' p bm (seenS ys) ys[k1] (numM (noS (seenS ys) ys[q])) h hx1 (by rw [HN.out] at hsl; omega))
                    rw [e2] at IS
                    generalize numM (noS (seenS ys) ys[k1]) = g1 at *
                    generalize numM (noS (seenS ys) ys[q]) = g2 at *
                    generalize ys[k1] = y1 at *
                    generalize ys[q] = y2 at *
                    have f1 : (g1 == g2) = decide (y1 = y2) := by rw [← e1, Bool.eq_iff_iff]; simp
                    have f2 : (y1 == y2) = decide (y1 = y2) := by rw [Bool.eq_iff_iff]; simp
                    generalize decide (y1 = y2) = bq at *
                    clear e1 e2 hsl n40' hky1 hkyq
                    have B0 := Lib.hid hbq
                    have bk := Below.refl wr.heap.size wr
                    have NX := Lib.hid (fun (W : World) (h : Below wr.heap.size wr W) => show Below W1.heap.size W1 W from hbq.trans (h.mono hbq.size))
                    clear hbq
                    cases bq
                    all_goals
                      go_wp2_with fail
                      go_region_held3 (fun w' => w'.cell? ⟨gb, go + k1, none⟩ = some (.string ⟨g1.toArray⟩) ∧ w'.cell? ⟨gb, go + q, none⟩ = some (.string ⟨g2.toArray⟩) ∧ w'.cell? ⟨b, off + k1, none⟩ = some (.string ⟨y1.toArray⟩) ∧ w'.cell? ⟨b, off + q, none⟩ = some (.string ⟨y2.toArray⟩) ∧ Below wr.heap.size wr w')
                        (first
                          | (go_split_ands; exact four_kept (by assumption) (by assumption) (by assumption) (by assumption) (by assumption) (Below_drew (Below.refl _ _)))
                          | (go_split_ands; exact four_kept (by assumption) (by assumption) (by assumption) (by assumption) (by assumption) (by assumption))
                          | go_keep)
                        (first | (go_at_call 20; go_split_ands; refine (IS _ (HIq.out.new (by assumption))).out.mono ?_; rintro e w' ⟨rfl, hkw⟩))
                      go_split_ands
                      have BN := Lib.hid (NX.out _ (by assumption))
                      go_wp2
                      go_roundw
                      case rel => exact ⟨q + 1, by omega, by go_num, BN.out⟩
                      case measure => simp [intOf]; omega
                  · go_wp2
                    go_roundw
                    case rel => exact ⟨k1 + 1, by omega, by go_num, hbq⟩
                    case measure => simp [intOf]; omega
              · go_wp2_with fail
                refine (awake_any _).mono ?_
                rintro e w5 ⟨rfl, hb5⟩
                go_wp2
                go_ret
                have b3 := BEL.out.trans (hb1.mono hbw)
                exact ⟨rfl, b3.trans (hb5.mono b3.size)⟩
end Go.Proofs.Ytbiahhngeldhbaa
