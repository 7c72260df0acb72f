/- The distance of two lists of discs. -/
import Derived.Test.YthbhengcinkepaaHan2
namespace Go.Proofs.Ythbhengcinkepaa
open Go.RowKit

abbrev zeroV : Array Value := #[.int .i8 0, .int .i8 0, .int .i8 0, .int .i8 0, .int .i8 0, .int .i8 0, .int .i8 0, .int .i8 0, .int .i8 0, .int .i8 0, .int .i8 0, .int .i8 0, .int .i8 0, .int .i8 0, .int .i8 0, .int .i8 0, .int .i8 0, .int .i8 0, .int .i8 0, .int .i8 0, .int .i8 0, .int .i8 0, .int .i8 0, .int .i8 0, .int .i8 0, .int .i8 0, .int .i8 0, .int .i8 0, .int .i8 0, .int .i8 0, .int .i8 0, .int .i8 0, .int .i8 0, .int .i8 0, .int .i8 0, .int .i8 0, .int .i8 0, .int .i8 0, .int .i8 0, .int .i8 0]
theorem below_setRow {B g : Nat} {a w : World} {cs : Array Value} (h : Below B a w) (hg : B ≤ g) : Below B a (w.setRow g cs) := h.trans ⟨rfl, rfl, rfl, by simp, fun j hj => setRow_other w g j cs (by omega)⟩
theorem chk2_ok {l1 l2 : List Int} (h1 : discsB l1 = true) (h2 : discsB l2 = true) (hl : l2.length = l1.length) : chk2 l1 l2 = 0 := by
  unfold chk2
  rw [if_pos h1, if_pos h2, if_pos hl]
theorem dist_40 {l1 l2 : List Int} (h1 : discsB l1 = true) (hl : l2.length = l1.length) : grtK (atL l1) (atL l2) 40 = grtK (atL l1) (atL l2) l1.length := by
  have h := discsB_len h1
  have h2 := grtK_more (s := atL l1) (t := atL l2) (n := l1.length) (fun i hi => by
    unfold atL
    rw [List.getD_eq_getElem?_getD, List.getD_eq_getElem?_getD, List.getElem?_eq_none hi, List.getElem?_eq_none (by omega)]) (40 - l1.length)
  rwa [show l1.length + (40 - l1.length) = 40 by omega] at h2

set_option maxRecDepth 100000 in
set_option maxHeartbeats 4000000 in
theorem Distance_ok (A1 A2 : Option Addr) (l1 l2 : List Int) (c1 c2 : Nat) (w : World) (hr1 : RInts w w.heap.size A1 l1) (hr2 : RInts w w.heap.size A2 l2) (hd1 : discsB l1 = true) (hd2 : discsB l2 = true) (hl : l2.length = l1.length) :
    Calls Try.prog 88 #[.slice A1 l1.length c1, .slice A2 l2.length c2] w fun e w' => e = .returned (.tuple #[.int .i64 (distK (atL l1) (atL l2) l1.length : Nat), .int .i64 0]) ∧ Below w.heap.size w w' := by
  have hl1 := (discsB_len hd1).2
  have hl2 := (discsB_len hd2).2
  have HDK := Lib.hid (show distK (atL l1) (atL l2) l1.length = (match grtK (atL l1) (atL l2) l1.length with | 0 => 0 | d + 1 => min (oneK (atL l1) (atL l2) d) (twoK (atL l1) (atL l2) d)) from rfl)
  rw [← dist_40 hd1 hl] at HDK
  obtain ⟨R, hR⟩ : ∃ R, distK (atL l1) (atL l2) l1.length = R := ⟨_, rfl⟩
  rw [hR] at HDK ⊢
  have HR1 := Lib.hid hr1
  have HR2 := Lib.hid hr2
  have HD1 := Lib.hid hd1
  have HD2 := Lib.hid hd2
  have HF := Lib.hid (fun i => atL_lt hd1 i)
  have HT := Lib.hid (fun i => atL_lt hd2 i)
  have hbx := Box.new w 47 #[.slice A1 l1.length c1, .slice A2 l2.length c2]
  have hbe := (Below.refl w.heap.size w).alloc (Nat.le_refl _) (Obj.cells #[.slice A1 l1.length c1, .slice A2 l2.length c2] 47)
  have HC := Lib.hid (hcheck_two A1 A2 l1 l2 c1 c2 w.heap.size 2 _ (hbx.cell 0) (hbx.cell 1) ((hr1.below hbe).more hbe.size) ((hr2.below hbe).more hbe.size) (by omega) (by omega))
  rw [chk2_ok hd1 hd2 hl] at HC
  have HB := Lib.hid hbe
  clear hR hr1 hr2 hd1 hd2 hbx hbe hl
  obtain ⟨w1, hw1⟩ : ∃ w1, w.alloc (Obj.cells #[.slice A1 l1.length c1, .slice A2 l2.length c2] 47) = w1 := ⟨_, rfl⟩
  rw [hw1] at HC HB
  go_enter Try.func88, Try.ntmps88
  go_wp2_with fail
  try rw [hw1]
  clear hw1
  refine HC.out.mono ?_
  rintro e w1' ⟨rfl, rfl⟩
  clear HC
  go_wp2_with fail
  refine (positionOf_any A1 l1 c1 w1 ((HR1.out.below HB.out).more HB.out.size) HD1.out).mono ?_
  rintro e w2 ⟨rfl, hb2⟩
  have HB2 := Lib.hid (HB.out.trans (hb2.mono HB.out.size))
  clear hb2
  go_wp2_with fail
  refine (positionOf_any A2 l2 c2 w2 ((HR2.out.below HB2.out).more HB2.out.size) HD2.out).mono ?_
  rintro e w3 ⟨rfl, hb3⟩
  have HB3 := Lib.hid (HB2.out.trans (hb3.mono HB2.out.size))
  clear hb3 HB2 HB HR1 HR2
  obtain ⟨f, hf⟩ : ∃ f, atL l1 = f := ⟨_, rfl⟩
  obtain ⟨t, ht⟩ : ∃ t, atL l2 = t := ⟨_, rfl⟩
  rw [hf] at HDK HF ⊢
  rw [ht] at HDK HT ⊢
  clear hf ht HD1 HD2
  obtain ⟨g7, hg7⟩ : ∃ g7, w3.heap.size = g7 := ⟨_, rfl⟩
  have HX0 := Lib.hid ((Box.new w3 188 zeroV).alloc (Obj.cells zeroV 188))
  have HY0 := Lib.hid (Box.new (w3.alloc (Obj.cells zeroV 188)) 188 zeroV)
  rw [show (w3.alloc (Obj.cells zeroV 188)).heap.size = w3.heap.size + 1 by simp] at HY0
  have HB4 := Lib.hid ((HB3.out.alloc HB3.out.size (Obj.cells zeroV 188)).alloc (by have := HB3.out.size; simp; omega) (Obj.cells zeroV 188))
  obtain ⟨w4, hw4⟩ : ∃ w4, (w3.alloc (Obj.cells zeroV 188)).alloc (Obj.cells zeroV 188) = w4 := ⟨_, rfl⟩
  rw [hw4] at HX0 HY0 HB4
  rw [hg7] at HX0 HY0
  have hs1 : (Try.prog.info? 188).map (·.size) = some (arrP f).size := by rw [arrP_size]; kernel_rfl
  have hs2 : (Try.prog.info? 188).map (·.size) = some (arrP t).size := by rw [arrP_size]; kernel_rfl
  have hz1 : zeroV.size = (arrP f).size := by rw [arrP_size]; rfl
  have hz2 : zeroV.size = (arrP t).size := by rw [arrP_size]; rfl
  have HY1 := Lib.hid (show Box (w4.setRow g7 (arrP f)) (g7 + 1) 188 zeroV from (setRow_other w4 g7 (g7 + 1) _ (by omega)).trans HY0.out)
  go_upto_region 5 with (first | (refine wpList_store_row rfl _ _ _ rfl g7 _ rfl rfl 188 zeroV HX0.out hs1 hz1 (lstP_one f) ?_) | (refine wpList_store_row rfl _ _ _ rfl (g7 + 1) _ rfl rfl 188 zeroV HY1.out hs2 hz2 (lstP_one t) ?_))
  have HX := Lib.hid (show Box ((w4.setRow g7 (arrP f)).setRow (g7 + 1) (arrP t)) g7 188 (arrP f) from (setRow_other _ (g7 + 1) g7 _ (by omega)).trans (setRow_heap w4 g7 _ (arrP f) _ _ HX0.out))
  have HY := Lib.hid (show Box ((w4.setRow g7 (arrP f)).setRow (g7 + 1) (arrP t)) (g7 + 1) 188 (arrP t) from setRow_heap _ (g7 + 1) _ (arrP t) _ _ HY1.out)
  have hgw : w.heap.size ≤ g7 := by have := HB3.out.size; omega
  have HBW := Lib.hid (below_setRow (below_setRow HB4.out hgw (cs := arrP f)) (show w.heap.size ≤ g7 + 1 by omega) (cs := arrP t))
  obtain ⟨W, hW⟩ : ∃ W, (w4.setRow g7 (arrP f)).setRow (g7 + 1) (arrP t) = W := ⟨_, rfl⟩
  rw [hW] at HX HY HBW ⊢
  clear hW HX0 HY0 HY1 HB3 HB4 hz1 hz2 hw4 hg7 hgw
  have heq := eqP f t
  obtain ⟨E, hE⟩ : ∃ E, sameB f t = E := ⟨_, rfl⟩
  rw [hE] at heq
  cases E with
  | true =>
    have h0 := grtK_zero.2 (sameB_true.1 hE)
    have hr := HDK.out
    rw [h0] at hr
    simp only at hr
    subst hr
    clear hE h0
    go_wp2_with (first | (refine wpList_load_row rfl _ _ rfl g7 rfl 188 _ (0, 0) _ HX.out Try.underlying188 rfl hs1 ?_) | (refine wpList_load_row rfl _ _ rfl (g7 + 1) rfl 188 _ (0, 0) _ HY.out Try.underlying188 rfl hs2 ?_))
    go_ret2
    exact ⟨rfl, HBW.out⟩
  | false =>
    obtain ⟨d, hd⟩ : ∃ d, grtK f t 40 = d + 1 := by
      cases h : grtK f t 40 with
      | zero => rw [sameB_true.2 (grtK_zero.1 h)] at hE; cases hE
      | succ d => exact ⟨d, rfl⟩
    have hne := grtK_ne hd
    have hd40 : d < 40 := by have := grtK_le f t 40; omega
    have hr := HDK.out
    rw [hd] at hr
    simp only at hr
    have HGR := Lib.hid (fun w9 => greatest_any f t w9)
    have hdi : ((d + 1 : Nat) : Int) - 1 = (d : Int) := by omega
    rw [hd, hdi] at HGR
    have HLE := Lib.hid (fun w9 => lengths_any f t d w9 hd40 HF.out HT.out hne)
    have HRR := Lib.hid hr
    have HRF := Lib.hid HX.out.rangeP
    have HRT := Lib.hid HY.out.rangeP
    have hsf : (Try.prog.info? 188).map (·.size) = some (lstP f).length := by rw [lstP_len]; kernel_rfl
    have hst : (Try.prog.info? 188).map (·.size) = some (lstP t).length := by rw [lstP_len]; kernel_rfl
    have hup := Try.underlying188
    obtain ⟨o1, ho1⟩ : ∃ o, oneK f t d = o := ⟨_, rfl⟩
    obtain ⟨o2, ho2⟩ : ∃ o, twoK f t d = o := ⟨_, rfl⟩
    rw [ho1, ho2] at HLE HRR
    clear hE hr hd hne hdi HF HT ho1 ho2
    go_upto_region 7 with (first | (refine wpList_load_row rfl _ _ rfl g7 rfl 188 _ (0, 0) _ HX.out Try.underlying188 rfl hs1 ?_) | (refine wpList_load_row rfl _ _ rfl (g7 + 1) rfl 188 _ (0, 0) _ HY.out Try.underlying188 rfl hs2 ?_))
    go_cut [9, 10] (fun v9 v10 wx => v9 = .int .i64 o1 ∧ v10 = .int .i64 o2 ∧ Hid (Below w.heap.size w wx))
    case first =>
      refine wp_region_held_drew (S := (fun w' => w'.rangeAt g7 0 (lstP f) ∧ w'.rangeAt (g7 + 1) 0 (lstP t) ∧ Below W.heap.size W w')) (by kernel_rfl) (keepR HRF.out HRT.out (Below.refl _ _).drew) (fun hHeld => ?_)
      refine wpAnyH_take (i := 0) (v := _) rfl (by kernel_rfl) (by kernel_rfl) (by kernel_rfl) (fun _ _ _ h => h) (yieldsIf_load_mid (by rfl) 188 _ rfl _ _ rfl (lstP f) _ (fun _ h => h.1) hup rfl hsf) (by assumption) ?_
      try simp only [Act.put, List.setIfInBounds_toArray, List.set_cons_zero, List.set_cons_succ, List.getElem_toArray, List.getElem_cons_zero]
      refine wpAnyH_take (i := 1) (v := _) rfl (by kernel_rfl) (by kernel_rfl) (by kernel_rfl) (fun _ _ _ h => h) (yieldsIf_load_mid (by rfl) 188 _ rfl _ _ rfl (lstP t) _ (fun _ h => h.2.1) hup rfl hst) (by assumption) ?_
      try simp only [Act.put, List.setIfInBounds_toArray, List.set_cons_zero, List.set_cons_succ, List.getElem_toArray, List.getElem_cons_zero, List.getElem_cons_succ]
      refine wpAnyH_take (i := 2) (v := _) rfl (by kernel_rfl) (by kernel_rfl) (by kernel_rfl) (fun _ _ _ h => h) (yieldsIf_load_mid (by rfl) 188 _ rfl _ _ rfl (lstP f) _ (fun _ h => h.1) hup rfl hsf) (by assumption) ?_
      try simp only [Act.put, List.setIfInBounds_toArray, List.set_cons_zero, List.set_cons_succ, List.getElem_toArray, List.getElem_cons_zero, List.getElem_cons_succ]
      refine wpAnyH_take (i := 3) (v := _) rfl (by kernel_rfl) (by kernel_rfl) (by kernel_rfl) (fun _ _ _ h => h) (yieldsIf_load_mid (by rfl) 188 _ rfl _ _ rfl (lstP t) _ (fun _ h => h.2.1) hup rfl hst) (by assumption) ?_
      try simp only [Act.put, List.setIfInBounds_toArray, List.set_cons_zero, List.set_cons_succ, List.getElem_toArray, List.getElem_cons_zero, List.getElem_cons_succ]
      refine wpAnyH_ready (rs := [4]) (by kernel_rfl) (by simp) ?_
      refine AllReadyH.cons rfl (fun K hK => ?_) AllReadyH.nil
      go_simp
      go_at_call 140
      refine (HGR.out _).mono ?_
      rintro e w11 ⟨rfl, hb11⟩
      have hc11 := keepW (w := W) ((Below.refl _ _).drew) hb11
      go_wp2_with fail
      refine hK.out _ _ ?_ (fun hHeld => ?_)
      · exact keepR HRF.out HRT.out hc11
      clear hK K
      try simp only [Act.put, List.setIfInBounds_toArray, List.set_cons_zero, List.set_cons_succ, List.getElem_toArray, List.getElem_cons_zero, List.getElem_cons_succ]
      refine wpAnyH_ready (rs := [5]) (by kernel_rfl) (by simp) ?_
      refine AllReadyH.cons rfl (fun K hK => ?_) AllReadyH.nil
      go_simp
      go_at_call 139
      refine (HLE.out _).mono ?_
      rintro e w12 ⟨rfl, hb12⟩
      have hc12 := keepW (w := W) hc11 hb12
      go_wp2_with fail
      refine hK.out _ _ ?_ (fun hHeld => ?_)
      · exact keepR HRF.out HRT.out hc12
      clear hK K
      try simp only [Act.put, List.setIfInBounds_toArray, List.set_cons_zero, List.set_cons_succ, List.getElem_toArray, List.getElem_cons_zero, List.getElem_cons_succ]
      refine wpAnyH_take (i := 6) (v := ?_) rfl (by kernel_rfl) (by kernel_rfl) (by kernel_rfl) (fun _ _ _ h => h) (Or.inl ⟨by rfl, ?_⟩) (by assumption) ?_
      rotate_left
      · (intro w hSw; (try dsimp only at hSw); go_simp <;> (with_reducible rfl))
      try simp only [Act.put, List.setIfInBounds_toArray, List.set_cons_zero, List.set_cons_succ, List.getElem_toArray, List.getElem_cons_zero, List.getElem_cons_succ]
      refine wpAnyH_take (i := 7) (v := ?_) rfl (by kernel_rfl) (by kernel_rfl) (by kernel_rfl) (fun _ _ _ h => h) (Or.inl ⟨by rfl, ?_⟩) (by assumption) ?_
      rotate_left
      · (intro w hSw; (try dsimp only at hSw); go_simp <;> (with_reducible rfl))
      try simp only [Act.put, List.setIfInBounds_toArray, List.set_cons_zero, List.set_cons_succ, List.getElem_toArray, List.getElem_cons_zero, List.getElem_cons_succ]
      refine wpAnyH_take (i := 8) (v := ?_) rfl (by kernel_rfl) (by kernel_rfl) (by kernel_rfl) (fun _ _ _ h => h) (Or.inl ⟨by rfl, ?_⟩) (by assumption) ?_
      rotate_left
      · (intro w hSw; (try dsimp only at hSw); go_simp <;> (with_reducible rfl))
      try simp only [Act.put, List.setIfInBounds_toArray, List.set_cons_zero, List.set_cons_succ, List.getElem_toArray, List.getElem_cons_zero, List.getElem_cons_succ]
      refine wpAnyH_take (i := 9) (v := ?_) rfl (by kernel_rfl) (by kernel_rfl) (by kernel_rfl) (fun _ _ _ h => h) (Or.inl ⟨by rfl, ?_⟩) (by assumption) ?_
      rotate_left
      · (intro w hSw; (try dsimp only at hSw); go_simp <;> (with_reducible rfl))
      try simp only [Act.put, List.setIfInBounds_toArray, List.set_cons_zero, List.set_cons_succ, List.getElem_toArray, List.getElem_cons_zero, List.getElem_cons_succ]
      refine wpAnyH_take (i := 10) (v := ?_) rfl (by kernel_rfl) (by kernel_rfl) (by kernel_rfl) (fun _ _ _ h => h) (Or.inl ⟨by rfl, ?_⟩) (by assumption) ?_
      rotate_left
      · (intro w hSw; (try dsimp only at hSw); go_simp <;> (with_reducible rfl))
      try simp only [Act.put, List.setIfInBounds_toArray, List.set_cons_zero, List.set_cons_succ, List.getElem_toArray, List.getElem_cons_zero, List.getElem_cons_succ]
      refine wpAnyH_done (by kernel_rfl) ?_ _
      go_wp2_with fail
      go_meet
      exact ⟨rfl, rfl, Lib.hid (HBW.out.trans (hc12.mono HBW.out.size))⟩
    case rest =>
    obtain ⟨rfl, rfl, HB9⟩ := hcut
    go_wp2_with fail
    all_goals
      go_ret2
      refine ⟨?_, HB9.out⟩
      have hrr := HRR.out
      first
        | (have e : (R : Int) = (o1 : Int) := by omega
           rw [e]; rfl)
        | (have e : (R : Int) = (o2 : Int) := by omega
           rw [e]; rfl)
end Go.Proofs.Ythbhengcinkepaa
