/- Positions of discs: the peg of a disc, the third peg, gathering. -/
import Derived.Test.YthbhengcinkepaaArr40
import Derived.Test.YthbhengcinkepaaBoxes
import Derived.Test.YthbhengcinkepaaHanD
import Derived.Test.YthbhengcinkepaaBitI
import Derived.Deep.RegionHeld3
namespace Go.Proofs.Ythbhengcinkepaa
open Go.RowKit

set_option maxRecDepth 100000 in
set_option maxHeartbeats 1000000 in
theorem peg_any (f : Nat → Nat) (d : Nat) (w : World) (hd : d < 40) (hf : f d < 128) :
    Calls Try.prog 166 #[.agg (arrP f), .int .i64 d] w fun e w' => e = .returned (.int .i64 (f d : Nat)) ∧ Below w.heap.size w w' := by
  have HB := Lib.hid (Below.refl w.heap.size w)
  have HX := Lib.hid (Box.new w 188 (arrP f))
  have hsz : (lstP f).length = 40 := lstP_len f
  have hg := lstP_at f d
  have hc : wrap64 ((f d : Nat) : Int) = ((f d : Nat) : Int) := w64 (by omega)
  go_enter Try.func166, Try.ntmps166
  go_wp2_with fail
  go_ret
  exact ⟨rfl, HB.out.alloc HB.out.size _⟩

theorem third_any (a b : Nat) (w : World) (ha : a < 3) (hb : b < 3) (hne : a ≠ b) :
    Calls Try.prog 167 #[.int .i64 a, .int .i64 b] w fun e w' => e = .returned (.int .i64 (3 - a - b : Nat)) ∧ w = w' := by
  have hc : (3 : Int) - (a : Int) - (b : Int) = ((3 - a - b : Nat) : Int) := by omega
  go_enter Try.func167, Try.ntmps167
  go_wp2_with fail
  go_ret
  exact ⟨rfl, rfl⟩

theorem pow_w (g : Nat) (h : g < 62) : wrap64 ((2 : Int) ^ g) = ((2 ^ g : Nat) : Int) := by
  have h1 := Nat.pow_le_pow_right (n := 2) (by decide) (show g ≤ 61 by omega)
  have h2 : ((2 : Int) ^ g) = ((2 ^ g : Nat) : Int) := by simp
  rw [h2]
  obtain ⟨P, hP⟩ : ∃ P, 2 ^ g = P := ⟨_, rfl⟩
  rw [hP] at h1 ⊢
  exact w64 (by omega)

set_option maxRecDepth 100000 in
set_option maxHeartbeats 2000000 in
theorem gathering_any (f : Nat → Nat) (d p : Nat) (w : World) (hd : d ≤ 40) (hf : ∀ i, f i < 3) (hp : p < 3) :
    Calls Try.prog 168 #[.agg (arrP f), .int .i64 d, .int .i64 p] w fun e w' => e = .returned (.int .i64 (gathK f d p : Nat)) ∧ Below w.heap.size w w' := by
  have HPG := Lib.hid (fun (i : Nat) (h : i < 40) w9 => peg_any f i w9 h (by have := hf i; omega))
  have HB := Lib.hid (Below.refl w.heap.size w)
  have HX := Lib.hid (Box.new w 188 (arrP f))
  have hsz : (lstP f).length = 40 := lstP_len f
  obtain ⟨G, hG⟩ : ∃ G, gathK f d p = G := ⟨_, rfl⟩
  have hGb : G < 1099511627776 := by
    have h1 := gathK_lt f d p
    have h2 := Nat.pow_le_pow_right (n := 2) (by decide) hd
    rw [hG] at h1
    omega
  rw [hG]
  go_enter Try.func168, Try.ntmps168
  go_wp2_with fail
  go_loopg [2, 7, 8] d (fun g pv mv iv ws => ∃ (q m : Nat), pv = .int .i64 q ∧ mv = .int .i64 m ∧ iv = .int .i64 ((g : Int) - 1) ∧ q < 3 ∧ Hid (m + gathK f g q = G) ∧ g ≤ 40 ∧ Hid (Box ws w.heap.size 188 (arrP f)) ∧ Hid (Below w.heap.size w ws))
  case atStart => exact ⟨p, 0, rfl, rfl, rfl, hp, Lib.hid (by rw [hG]; omega), hd, HX, Lib.hid (HB.out.alloc HB.out.size _)⟩
  case round =>
    obtain ⟨q, m, rfl, rfl, rfl, hq, HM1, hg40, HX1, HB1⟩ := hrel
    have HM := HM1
    have HXX := HX1
    have HBB := HB1
    clear HM1 HX1 HB1 HX HB
    cases gk with
    | zero =>
      have hge : ¬ ((0 : Nat) : Int) - 1 ≥ 0 := by omega
      have hm0 := HM.out
      simp only [gathK, Nat.add_zero] at hm0
      subst hm0
      go_wp2_with fail
      go_ret
      exact ⟨rfl, HBB.out⟩
    | succ g =>
      have hgi : ((g + 1 : Nat) : Int) - 1 = (g : Int) := by omega
      have hge : (g : Int) ≥ 0 := by omega
      rw [hgi]
      have hs2 : (Try.prog.info? 188).map (·.size) = some (arrP f).size := by rw [arrP_size]; kernel_rfl
      by_cases hfq : f g = q
      · go_wp2_with (refine wpList_load_row rfl _ _ rfl w.heap.size rfl 188 _ (0, 0) _ HXX.out Try.underlying188 rfl hs2 ?_)
        refine (HPG.out g (by omega) _).mono ?_
        rintro e w2 ⟨rfl, hb⟩
        have HX2 := Lib.hid (HXX.out.below hb HXX.out.lt)
        have HB2 := Lib.hid (HBB.out.trans (hb.mono HBB.out.size))
        have HM2 := Lib.hid (show m + gathK f g q = G by have := HM.out; rw [gathK, if_pos hfq] at this; exact this)
        clear hb HXX HBB HM
        rw [hfq]
        go_wp2_with fail
        go_roundg g
        case measure => omega
        case rel => exact ⟨q, m, rfl, rfl, by go_num, hq, HM2, by omega, HX2, HB2⟩
      · go_wp2_with (refine wpList_load_row rfl _ _ rfl w.heap.size rfl 188 _ (0, 0) _ HXX.out Try.underlying188 rfl hs2 ?_)
        refine (HPG.out g (by omega) _).mono ?_
        rintro e w2 ⟨rfl, hb⟩
        have HX2 := Lib.hid (HXX.out.below hb HXX.out.lt)
        have HB2 := Lib.hid (HBB.out.trans (hb.mono HBB.out.size))
        have HM2 := Lib.hid (show (m + 2 ^ g) + gathK f g (3 - f g - q) = G by have := HM.out; rw [gathK, if_neg hfq] at this; omega)
        have hw1 := pow_w g (by omega)
        have hq3 : 3 - f g - q < 3 := by have := hf g; omega
        have HTH := Lib.hid (fun w9 => third_any (f g) q w9 (hf g) hq hfq)
        obtain ⟨P, hP⟩ : ∃ P, 2 ^ g = P := ⟨_, rfl⟩
        rw [hP] at hw1 HM2
        have hw2 : wrap64 ((m : Int) + (P : Int)) = ((m + P : Nat) : Int) := by have := HM2.out; rw [w64 (by omega)]; omega
        clear hb HXX HBB HM hP
        go_wp2_with (refine wpList_load_row rfl _ _ rfl w.heap.size rfl 188 _ (0, 0) _ HX2.out Try.underlying188 rfl hs2 ?_)
        refine (HPG.out g (by omega) _).mono ?_
        rintro e w3 ⟨rfl, hb⟩
        have HX3 := Lib.hid (HX2.out.below hb HX2.out.lt)
        have HB3 := Lib.hid (HB2.out.trans (hb.mono HB2.out.size))
        clear hb HX2 HB2
        go_wp2_with fail
        refine (HTH.out _).mono ?_
        rintro e w4 ⟨rfl, rfl⟩
        go_wp2_with fail
        go_roundg g
        case measure => omega
        case rel => exact ⟨3 - f g - q, m + P, rfl, rfl, by go_num, hq3, HM2, by omega, HX3, HB3⟩

/-- One more than the greatest disc whose pegs differ. -/
theorem greatest_any (f t : Nat → Nat) (w : World) :
    Calls Try.prog 140 #[.agg (arrP f), .agg (arrP t)] w fun e w' => e = .returned (.int .i64 ((grtK f t 40 : Nat) - 1 : Int)) ∧ Below w.heap.size w w' := by
  have HX := Lib.hid (Box.new w 188 (arrP f))
  have HY := Lib.hid (Box.new (w.alloc (Obj.cells (arrP f) 188)) 188 (arrP t))
  have HX2 := Lib.hid (HX.out.alloc (Obj.cells (arrP t) 188))
  have HB := Lib.hid (((Below.refl w.heap.size w).alloc (Nat.le_refl _) (Obj.cells (arrP f) 188)).alloc (by simp) (Obj.cells (arrP t) 188))
  obtain ⟨G, hG⟩ : ∃ G, grtK f t 40 = G := ⟨_, rfl⟩
  rw [hG]
  go_enter Try.func140, Try.ntmps140
  go_wp2_with fail
  obtain ⟨W, hW⟩ : ∃ W, (w.alloc (Obj.cells (arrP f) 188)).alloc (Obj.cells (arrP t) 188) = W := ⟨_, rfl⟩
  have hs1 : (w.alloc (Obj.cells (arrP f) 188)).heap.size = w.heap.size + 1 := by simp
  rw [hs1] at HY
  rw [hW] at HY HX2 HB ⊢
  go_loopg [5] 40 (fun g iv ws => iv = .int .i64 ((g : Int) - 1) ∧ g ≤ 40 ∧ Hid (grtK f t g = G) ∧ Hid (Box ws w.heap.size 188 (arrP f)) ∧ Hid (Box ws (w.heap.size + 1) 188 (arrP t)) ∧ Hid (Below w.heap.size w ws))
  case atStart => exact ⟨rfl, by omega, Lib.hid hG, HX2, HY, HB⟩
  case round =>
    obtain ⟨rfl, hg40, HG1, HX1, HY1, HB1⟩ := hrel
    have HG := HG1
    have HXX := HX1
    have HYY := HY1
    have HBB := HB1
    clear HG1 HX1 HY1 HB1 HX HY HX2 HB
    cases gk with
    | zero =>
      have hz := HG.out
      simp only [grtK] at hz
      subst hz
      go_upto_region 2 with fail
      go_quiet (fail)
      go_wp2_with fail
      go_ret
      exact ⟨rfl, below_drewN HBB.out nq⟩
    | succ g =>
      have hgi : ((g + 1 : Nat) : Int) - 1 = (g : Int) := by omega
      have hge : (g : Int) ≥ 0 := by omega
      rw [hgi]
      have x0 := (HXX.out.cell g).trans (arrP_get f (by omega))
      have y0 := (HYY.out.cell g).trans (arrP_get t (by omega))
      by_cases hft : f g = t g
      · have HG2 := Lib.hid (show grtK f t g = G by have := HG.out; rw [grtK, if_pos hft] at this; exact this)
        have hfd : ((f g : Nat) : Int) = ((t g : Nat) : Int) := by omega
        go_upto_region 2 with fail
        go_quiet (fail)
        go_wp2_with fail
        go_roundg g
        case measure => omega
        case rel => exact ⟨by go_num, by omega, HG2, Lib.hid (HXX.out.drewN nq), Lib.hid (HYY.out.drewN nq), Lib.hid (below_drewN HBB.out nq)⟩
      · have HG2 := Lib.hid (show g + 1 = G by have := HG.out; rw [grtK, if_neg hft] at this; exact this)
        have hfd : ¬ ((f g : Nat) : Int) = ((t g : Nat) : Int) := by omega
        go_upto_region 2 with fail
        go_quiet (fail)
        go_wp2_with fail
        go_ret
        have hgG : (G : Int) - 1 = (g : Int) := by have := HG2.out; omega
        exact ⟨by rw [hgG]; rfl, below_drewN HBB.out nq⟩
theorem pow_i (g : Nat) (h : g < 62) : IntKind.i64.wrap ((2 : Int) ^ g) = ((2 ^ g : Nat) : Int) := by
  have h1 := Nat.pow_le_pow_right (n := 2) (by decide) (show g ≤ 61 by omega)
  have h2 : ((2 : Int) ^ g) = ((2 ^ g : Nat) : Int) := by simp
  rw [h2]
  obtain ⟨P, hP⟩ : ∃ P, 2 ^ g = P := ⟨_, rfl⟩
  rw [hP] at h1 ⊢
  exact IntWalk.i64_in _ (by omega)
theorem rangeAt_below {w W : World} {b o : Nat} {cs : List Value} (h : w.rangeAt b o cs) (hb : Below w.heap.size w W) : W.rangeAt b o cs := fun j v hv => (hb.cell (World.block_lt_of_cell? w _ (h j v hv))).trans (h j v hv)
theorem keepR {w W : World} {b b2 o o2 : Nat} {cs cs2 : List Value} (h1 : w.rangeAt b o cs) (h2 : w.rangeAt b2 o2 cs2) (hb : Below w.heap.size w W) : W.rangeAt b o cs ∧ W.rangeAt b2 o2 cs2 ∧ Below w.heap.size w W :=
  ⟨rangeAt_below h1 hb, rangeAt_below h2 hb, hb⟩
theorem keepW {w W W2 : World} (hb : Below w.heap.size w W) (h : Below W.heap.size W W2) : Below w.heap.size w W2 := hb.trans (h.mono hb.size)

set_option maxRecDepth 100000 in
set_option maxHeartbeats 2000000 in
theorem lengths_any (f t : Nat → Nat) (d : Nat) (w : World) (hd : d < 40) (hf : ∀ i, f i < 3) (ht : ∀ i, t i < 3) (hne : f d ≠ t d) :
    Calls Try.prog 139 #[.agg (arrP f), .agg (arrP t), .int .i64 d] w fun e w' => e = .returned (.tuple #[.int .i64 (oneK f t d : Nat), .int .i64 (twoK f t d : Nat)]) ∧ Below w.heap.size w w' := by
  have HPF := Lib.hid (fun w9 => peg_any f d w9 hd (by have := hf d; omega))
  have HPT := Lib.hid (fun w9 => peg_any t d w9 hd (by have := ht d; omega))
  have HTH := Lib.hid (fun w9 => third_any (f d) (t d) w9 (hf d) (ht d) hne)
  have HGF := Lib.hid (fun (p : Nat) (hp : p < 3) w9 => gathering_any f d p w9 (by omega) hf hp)
  have HGT := Lib.hid (fun (p : Nat) (hp : p < 3) w9 => gathering_any t d p w9 (by omega) ht hp)
  have HX := Lib.hid (Box.new w 188 (arrP f))
  have HY := Lib.hid (Box.new (w.alloc (Obj.cells (arrP f) 188)) 188 (arrP t))
  have HX2 := Lib.hid (HX.out.alloc (Obj.cells (arrP t) 188))
  have HB := Lib.hid (((Below.refl w.heap.size w).alloc (Nat.le_refl _) (Obj.cells (arrP f) 188)).alloc (by simp) (Obj.cells (arrP t) 188))
  obtain ⟨W, hW⟩ : ∃ W, (w.alloc (Obj.cells (arrP f) 188)).alloc (Obj.cells (arrP t) 188) = W := ⟨_, rfl⟩
  have hs1 : (w.alloc (Obj.cells (arrP f) 188)).heap.size = w.heap.size + 1 := by simp
  rw [hs1] at HY
  rw [hW] at HY HX2 HB
  have hsf : (Try.prog.info? 188).map (·.size) = some (lstP f).length := by rw [lstP_len]; kernel_rfl
  have hst : (Try.prog.info? 188).map (·.size) = some (lstP t).length := by rw [lstP_len]; kernel_rfl
  have hup := Try.underlying188
  have HRF := Lib.hid HX2.out.rangeP
  have HRT := Lib.hid HY.out.rangeP
  go_enter Try.func139, Try.ntmps139
  go_upto_region 1 with fail
  go_cut [8, 9] (fun v8 v9 wx => v8 = .int .i64 (f d : Nat) ∧ v9 = .int .i64 (t d : Nat) ∧ Hid (wx.rangeAt w.heap.size 0 (lstP f)) ∧ Hid (wx.rangeAt (w.heap.size + 1) 0 (lstP t)) ∧ Hid (Below w.heap.size w wx))
  case first =>
    refine wp_region_held_drew (S := (fun w' => w'.rangeAt w.heap.size 0 (lstP f) ∧ w'.rangeAt (w.heap.size + 1) 0 (lstP t) ∧ Below W.heap.size W w')) (by kernel_rfl) (keepR HRF.out HRT.out (Below.refl _ _).drew) (fun hHeld => ?_)
    refine wpAnyH_take (i := 0) (v := _) rfl (by kernel_rfl) (by kernel_rfl) (by kernel_rfl) (fun _ _ _ h => h) (yieldsIf_load_mid (by rfl) 188 _ rfl _ _ rfl (lstP f) _ (fun _ h => h.1) hup rfl hsf) (by assumption) ?_
    try simp only [Act.put, List.setIfInBounds_toArray, List.set_cons_zero, List.set_cons_succ, List.getElem_toArray, List.getElem_cons_zero]
    refine wpAnyH_take (i := 1) (v := ?_) rfl (by kernel_rfl) (by kernel_rfl) (by kernel_rfl) (fun _ _ _ h => h) (Or.inl ⟨by rfl, ?_⟩) (by assumption) ?_
    rotate_left
    · (intro w hSw; (try dsimp only at hSw); go_simp <;> (with_reducible rfl))
    try simp only [Act.put, List.setIfInBounds_toArray, List.set_cons_zero, List.set_cons_succ, List.getElem_toArray, List.getElem_cons_zero, List.getElem_cons_succ]
    refine wpAnyH_take (i := 3) (v := _) rfl (by kernel_rfl) (by kernel_rfl) (by kernel_rfl) (fun _ _ _ h => h) (yieldsIf_load_mid (by rfl) 188 _ rfl _ _ rfl (lstP t) _ (fun _ h => h.2.1) hup rfl hst) (by assumption) ?_
    try simp only [Act.put, List.setIfInBounds_toArray, List.set_cons_zero, List.set_cons_succ, List.getElem_toArray, List.getElem_cons_zero, List.getElem_cons_succ]
    refine wpAnyH_take (i := 4) (v := ?_) rfl (by kernel_rfl) (by kernel_rfl) (by kernel_rfl) (fun _ _ _ h => h) (Or.inl ⟨by rfl, ?_⟩) (by assumption) ?_
    rotate_left
    · (intro w hSw; (try dsimp only at hSw); go_simp <;> (with_reducible rfl))
    try simp only [Act.put, List.setIfInBounds_toArray, List.set_cons_zero, List.set_cons_succ, List.getElem_toArray, List.getElem_cons_zero, List.getElem_cons_succ]
    refine wpAnyH_ready (rs := [2]) (by kernel_rfl) (by simp) ?_
    refine AllReadyH.cons rfl (fun K hK => ?_) AllReadyH.nil
    go_simp
    go_at_call 166
    refine (HPF.out _).mono ?_
    rintro e w1 ⟨rfl, hb1⟩
    have hc1 := keepW (w := W) ((Below.refl _ _).drew) hb1
    go_wp2_with fail
    refine hK.out _ _ ?_ (fun hHeld => ?_)
    · exact keepR HRF.out HRT.out hc1
    clear hK K
    try simp only [Act.put, List.setIfInBounds_toArray, List.set_cons_zero, List.set_cons_succ, List.getElem_toArray, List.getElem_cons_zero, List.getElem_cons_succ]
    refine wpAnyH_ready (rs := [5]) (by kernel_rfl) (by simp) ?_
    refine AllReadyH.cons rfl (fun K hK => ?_) AllReadyH.nil
    go_simp
    go_at_call 166
    refine (HPT.out _).mono ?_
    rintro e w2 ⟨rfl, hb2⟩
    have hc2 := keepW (w := W) hc1 hb2
    go_wp2_with fail
    refine hK.out _ _ ?_ (fun hHeld => ?_)
    · exact keepR HRF.out HRT.out hc2
    clear hK K
    try simp only [Act.put, List.setIfInBounds_toArray, List.set_cons_zero, List.set_cons_succ, List.getElem_toArray, List.getElem_cons_zero, List.getElem_cons_succ]
    refine wpAnyH_take (i := 6) (v := ?_) rfl (by kernel_rfl) (by kernel_rfl) (by kernel_rfl) (fun _ _ _ h => h) (Or.inl ⟨by rfl, ?_⟩) (by assumption) ?_
    rotate_left
    · (intro w hSw; (try dsimp only at hSw); go_simp <;> (with_reducible rfl))
    try simp only [Act.put, List.setIfInBounds_toArray, List.set_cons_zero, List.set_cons_succ, List.getElem_toArray, List.getElem_cons_zero, List.getElem_cons_succ]
    refine wpAnyH_take (i := 7) (v := ?_) rfl (by kernel_rfl) (by kernel_rfl) (by kernel_rfl) (fun _ _ _ h => h) (Or.inl ⟨by rfl, ?_⟩) (by assumption) ?_
    rotate_left
    · (intro w hSw; (try dsimp only at hSw); go_simp <;> (with_reducible rfl))
    try simp only [Act.put, List.setIfInBounds_toArray, List.set_cons_zero, List.set_cons_succ, List.getElem_toArray, List.getElem_cons_zero, List.getElem_cons_succ]
    refine wpAnyH_done (by kernel_rfl) ?_ _
    go_wp2_with fail
    go_meet
    exact ⟨rfl, rfl, Lib.hid (rangeAt_below HRF.out hc2), Lib.hid (rangeAt_below HRT.out hc2), Lib.hid (HB.out.trans (hc2.mono HB.out.size))⟩
  case rest =>
  obtain ⟨rfl, rfl, HRF1, HRT1, HB1⟩ := hcut
  obtain ⟨W1, rfl⟩ : ∃ W1 : World, W1 = wc := ⟨_, rfl⟩
  have HRF2 := HRF1
  have HRT2 := HRT1
  have HB2 := HB1
  clear HRF1 HRT1 HB1 HRF HRT HX HY HX2 HB HPF HPT hW
  go_wp2_with fail
  refine (HTH.out _).mono ?_
  rintro e w2 ⟨rfl, rfl⟩
  obtain ⟨a, ha⟩ : ∃ a, 3 - f d - t d = a := ⟨_, rfl⟩
  have ha3 : a < 3 := by have h1 := hf d; have h2 := ht d; omega
  have H1 := Lib.hid (show oneK f t d = gathK f d a + 1 + gathK t d a by rw [← ha]; rfl)
  have H2 := Lib.hid (show twoK f t d = gathK f d (t d) + 2 ^ d + 1 + gathK t d (f d) from rfl)
  have HG1 := Lib.hid (HGF.out a ha3)
  have HG2 := Lib.hid (HGT.out a ha3)
  have HG3 := Lib.hid (HGF.out (t d) (ht d))
  have HG4 := Lib.hid (HGT.out (f d) (hf d))
  have hpd := Nat.pow_le_pow_right (n := 2) (by decide) (show d ≤ 40 by omega)
  have hl1 := gathK_lt f d a
  have hl2 := gathK_lt t d a
  have hl3 := gathK_lt f d (t d)
  have hl4 := gathK_lt t d (f d)
  have hw0 := pow_w d (by omega)
  rw [ha]
  have hpi := pow_i d (by omega)
  obtain ⟨P, hP⟩ : ∃ P, 2 ^ d = P := ⟨_, rfl⟩
  obtain ⟨g1, hg1⟩ : ∃ g1, gathK f d a = g1 := ⟨_, rfl⟩
  obtain ⟨g2, hg2⟩ : ∃ g2, gathK t d a = g2 := ⟨_, rfl⟩
  obtain ⟨g3, hg3⟩ : ∃ g3, gathK f d (t d) = g3 := ⟨_, rfl⟩
  obtain ⟨g4, hg4⟩ : ∃ g4, gathK t d (f d) = g4 := ⟨_, rfl⟩
  rw [hP] at hpd hl1 hl2 hl3 hl4 hw0 hpi H2
  rw [hg1] at hl1 HG1 H1
  rw [hg2] at hl2 HG2 H1
  rw [hg3] at hl3 HG3 H2
  rw [hg4] at hl4 HG4 H2
  have hv0 := hpi
  have hv1 : IntKind.i64.wrap ((g1 : Int) + 1) = (g1 : Int) + 1 := IntWalk.i64_in _ (by omega)
  have hv2 : IntKind.i64.wrap ((g1 : Int) + 1 + (g2 : Int)) = (g1 : Int) + 1 + (g2 : Int) := IntWalk.i64_in _ (by omega)
  have hv3 : IntKind.i64.wrap ((g3 : Int) + (P : Int)) = (g3 : Int) + (P : Int) := IntWalk.i64_in _ (by omega)
  have hv4 : IntKind.i64.wrap ((g3 : Int) + (P : Int) + 1) = (g3 : Int) + (P : Int) + 1 := IntWalk.i64_in _ (by omega)
  have hv5 : IntKind.i64.wrap ((g3 : Int) + (P : Int) + 1 + (g4 : Int)) = (g3 : Int) + (P : Int) + 1 + (g4 : Int) := IntWalk.i64_in _ (by omega)
  clear hP hg1 hg2 hg3 hg4 ha hl1 hl2 hl3 hl4 hpd HGF HGT HTH hw0 hpi
  go_upto_region 3 with fail
  go_cut [6] (fun v6 wx => v6 = .int .i64 ((g1 : Int) + 1 + (g2 : Int)) ∧ Hid (wx.rangeAt w.heap.size 0 (lstP f)) ∧ Hid (wx.rangeAt (w.heap.size + 1) 0 (lstP t)) ∧ Hid (Below w.heap.size w wx))
  case first =>
    refine wp_region_held_drew (S := (fun w' => w'.rangeAt w.heap.size 0 (lstP f) ∧ w'.rangeAt (w.heap.size + 1) 0 (lstP t) ∧ Below W1.heap.size W1 w')) (by kernel_rfl) (keepR HRF2.out HRT2.out (Below.refl _ _).drew) (fun hHeld => ?_)
    refine wpAnyH_take (i := 0) (v := _) rfl (by kernel_rfl) (by kernel_rfl) (by kernel_rfl) (fun _ _ _ h => h) (yieldsIf_load_mid (by rfl) 188 _ rfl _ _ rfl (lstP f) _ (fun _ h => h.1) hup rfl hsf) (by assumption) ?_
    try simp only [Act.put, List.setIfInBounds_toArray, List.set_cons_zero, List.set_cons_succ, List.getElem_toArray, List.getElem_cons_zero]
    refine wpAnyH_take (i := 1) (v := ?_) rfl (by kernel_rfl) (by kernel_rfl) (by kernel_rfl) (fun _ _ _ h => h) (Or.inl ⟨by rfl, ?_⟩) (by assumption) ?_
    rotate_left
    · (intro w hSw; (try dsimp only at hSw); go_simp <;> (with_reducible rfl))
    try simp only [Act.put, List.setIfInBounds_toArray, List.set_cons_zero, List.set_cons_succ, List.getElem_toArray, List.getElem_cons_zero, List.getElem_cons_succ]
    refine wpAnyH_take (i := 2) (v := ?_) rfl (by kernel_rfl) (by kernel_rfl) (by kernel_rfl) (fun _ _ _ h => h) (Or.inl ⟨by rfl, ?_⟩) (by assumption) ?_
    rotate_left
    · (intro w hSw; (try dsimp only at hSw); go_simp <;> (with_reducible rfl))
    try simp only [Act.put, List.setIfInBounds_toArray, List.set_cons_zero, List.set_cons_succ, List.getElem_toArray, List.getElem_cons_zero, List.getElem_cons_succ]
    refine wpAnyH_take (i := 5) (v := _) rfl (by kernel_rfl) (by kernel_rfl) (by kernel_rfl) (fun _ _ _ h => h) (yieldsIf_load_mid (by rfl) 188 _ rfl _ _ rfl (lstP t) _ (fun _ h => h.2.1) hup rfl hst) (by assumption) ?_
    try simp only [Act.put, List.setIfInBounds_toArray, List.set_cons_zero, List.set_cons_succ, List.getElem_toArray, List.getElem_cons_zero, List.getElem_cons_succ]
    refine wpAnyH_take (i := 6) (v := ?_) rfl (by kernel_rfl) (by kernel_rfl) (by kernel_rfl) (fun _ _ _ h => h) (Or.inl ⟨by rfl, ?_⟩) (by assumption) ?_
    rotate_left
    · (intro w hSw; (try dsimp only at hSw); go_simp <;> (with_reducible rfl))
    try simp only [Act.put, List.setIfInBounds_toArray, List.set_cons_zero, List.set_cons_succ, List.getElem_toArray, List.getElem_cons_zero, List.getElem_cons_succ]
    refine wpAnyH_take (i := 7) (v := ?_) rfl (by kernel_rfl) (by kernel_rfl) (by kernel_rfl) (fun _ _ _ h => h) (Or.inl ⟨by rfl, ?_⟩) (by assumption) ?_
    rotate_left
    · (intro w hSw; (try dsimp only at hSw); go_simp <;> (with_reducible rfl))
    try simp only [Act.put, List.setIfInBounds_toArray, List.set_cons_zero, List.set_cons_succ, List.getElem_toArray, List.getElem_cons_zero, List.getElem_cons_succ]
    refine wpAnyH_ready (rs := [3]) (by kernel_rfl) (by simp) ?_
    refine AllReadyH.cons rfl (fun K hK => ?_) AllReadyH.nil
    go_simp
    go_at_call 168
    refine (HG1.out _).mono ?_
    rintro e w3 ⟨rfl, hb3⟩
    have hc3 := keepW (w := W1) ((Below.refl _ _).drew) hb3
    go_wp2_with fail
    refine hK.out _ _ ?_ (fun hHeld => ?_)
    · exact keepR HRF2.out HRT2.out hc3
    clear hK K
    try simp only [Act.put, List.setIfInBounds_toArray, List.set_cons_zero, List.set_cons_succ, List.getElem_toArray, List.getElem_cons_zero, List.getElem_cons_succ]
    refine wpAnyH_take (i := 4) (v := ?_) rfl (by kernel_rfl) (by kernel_rfl) (by kernel_rfl) (fun _ _ _ h => h) (Or.inl ⟨by rfl, ?_⟩) (by assumption) ?_
    rotate_left
    · (intro w hSw; (try dsimp only at hSw); go_simp <;> (with_reducible rfl))
    try simp only [Act.put, List.setIfInBounds_toArray, List.set_cons_zero, List.set_cons_succ, List.getElem_toArray, List.getElem_cons_zero, List.getElem_cons_succ]
    refine wpAnyH_ready (rs := [8]) (by kernel_rfl) (by simp) ?_
    refine AllReadyH.cons rfl (fun K hK => ?_) AllReadyH.nil
    go_simp
    go_at_call 168
    refine (HG2.out _).mono ?_
    rintro e w4 ⟨rfl, hb4⟩
    have hc4 := keepW (w := W1) hc3 hb4
    go_wp2_with fail
    refine hK.out _ _ ?_ (fun hHeld => ?_)
    · exact keepR HRF2.out HRT2.out hc4
    clear hK K
    try simp only [Act.put, List.setIfInBounds_toArray, List.set_cons_zero, List.set_cons_succ, List.getElem_toArray, List.getElem_cons_zero, List.getElem_cons_succ]
    refine wpAnyH_take (i := 9) (v := ?_) rfl (by kernel_rfl) (by kernel_rfl) (by kernel_rfl) (fun _ _ _ h => h) (Or.inl ⟨by rfl, ?_⟩) (by assumption) ?_
    rotate_left
    · (intro w hSw; (try dsimp only at hSw); go_simp <;> (with_reducible rfl))
    try simp only [Act.put, List.setIfInBounds_toArray, List.set_cons_zero, List.set_cons_succ, List.getElem_toArray, List.getElem_cons_zero, List.getElem_cons_succ]
    refine wpAnyH_take (i := 10) (v := ?_) rfl (by kernel_rfl) (by kernel_rfl) (by kernel_rfl) (fun _ _ _ h => h) (Or.inl ⟨by rfl, ?_⟩) (by assumption) ?_
    rotate_left
    · (intro w hSw; (try dsimp only at hSw); go_simp <;> (with_reducible rfl))
    try simp only [Act.put, List.setIfInBounds_toArray, List.set_cons_zero, List.set_cons_succ, List.getElem_toArray, List.getElem_cons_zero, List.getElem_cons_succ]
    refine wpAnyH_done (by kernel_rfl) ?_ _
    go_wp2_with fail
    go_meet
    exact ⟨rfl, Lib.hid (rangeAt_below HRF2.out hc4), Lib.hid (rangeAt_below HRT2.out hc4), Lib.hid (HB2.out.trans (hc4.mono HB2.out.size))⟩
  case rest =>
  obtain ⟨rfl, HRF1, HRT1, HB1⟩ := hcut
  obtain ⟨W5, rfl⟩ : ∃ W5 : World, W5 = wc := ⟨_, rfl⟩
  have HRF5 := HRF1
  have HRT5 := HRT1
  have HB5 := HB1
  clear HRF1 HRT1 HB1 HRF2 HRT2 HB2
  go_upto_region 4 with fail
  go_cut [7] (fun v7 wx => v7 = .int .i64 ((g3 : Int) + (P : Int) + 1 + (g4 : Int)) ∧ Hid (Below w.heap.size w wx))
  case first =>
    refine wp_region_held_drew (S := (fun w' => w'.rangeAt w.heap.size 0 (lstP f) ∧ w'.rangeAt (w.heap.size + 1) 0 (lstP t) ∧ Below W5.heap.size W5 w')) (by kernel_rfl) (keepR HRF5.out HRT5.out (Below.refl _ _).drew) (fun hHeld => ?_)
    refine wpAnyH_take (i := 0) (v := _) rfl (by kernel_rfl) (by kernel_rfl) (by kernel_rfl) (fun _ _ _ h => h) (yieldsIf_load_mid (by rfl) 188 _ rfl _ _ rfl (lstP f) _ (fun _ h => h.1) hup rfl hsf) (by assumption) ?_
    try simp only [Act.put, List.setIfInBounds_toArray, List.set_cons_zero, List.set_cons_succ, List.getElem_toArray, List.getElem_cons_zero]
    refine wpAnyH_take (i := 1) (v := ?_) rfl (by kernel_rfl) (by kernel_rfl) (by kernel_rfl) (fun _ _ _ h => h) (Or.inl ⟨by rfl, ?_⟩) (by assumption) ?_
    rotate_left
    · (intro w hSw; (try dsimp only at hSw); go_simp <;> (with_reducible rfl))
    try simp only [Act.put, List.setIfInBounds_toArray, List.set_cons_zero, List.set_cons_succ, List.getElem_toArray, List.getElem_cons_zero, List.getElem_cons_succ]
    refine wpAnyH_take (i := 2) (v := ?_) rfl (by kernel_rfl) (by kernel_rfl) (by kernel_rfl) (fun _ _ _ h => h) (Or.inl ⟨by rfl, ?_⟩) (by assumption) ?_
    rotate_left
    · (intro w hSw; (try dsimp only at hSw); go_simp <;> (with_reducible rfl))
    try simp only [Act.put, List.setIfInBounds_toArray, List.set_cons_zero, List.set_cons_succ, List.getElem_toArray, List.getElem_cons_zero, List.getElem_cons_succ]
    refine wpAnyH_take (i := 4) (v := ?_) rfl (by kernel_rfl) (by kernel_rfl) (by kernel_rfl) (fun _ _ _ h => h) (Or.inl ⟨by rfl, ?_⟩) (by assumption) ?_
    rotate_left
    · (intro w hSw; (try dsimp only at hSw); go_simp <;> (with_reducible rfl))
    try simp only [Act.put, List.setIfInBounds_toArray, List.set_cons_zero, List.set_cons_succ, List.getElem_toArray, List.getElem_cons_zero, List.getElem_cons_succ]
    refine wpAnyH_take (i := 5) (v := ?_) rfl (by kernel_rfl) (by kernel_rfl) (by kernel_rfl) (fun _ _ _ h => h) (Or.inl ⟨by rfl, ?_⟩) (by assumption) ?_
    rotate_left
    · (intro w hSw; (try dsimp only at hSw); go_simp <;> (with_reducible rfl))
    try simp only [Act.put, List.setIfInBounds_toArray, List.set_cons_zero, List.set_cons_succ, List.getElem_toArray, List.getElem_cons_zero, List.getElem_cons_succ]
    refine wpAnyH_take (i := 8) (v := _) rfl (by kernel_rfl) (by kernel_rfl) (by kernel_rfl) (fun _ _ _ h => h) (yieldsIf_load_mid (by rfl) 188 _ rfl _ _ rfl (lstP t) _ (fun _ h => h.2.1) hup rfl hst) (by assumption) ?_
    try simp only [Act.put, List.setIfInBounds_toArray, List.set_cons_zero, List.set_cons_succ, List.getElem_toArray, List.getElem_cons_zero, List.getElem_cons_succ]
    refine wpAnyH_take (i := 9) (v := ?_) rfl (by kernel_rfl) (by kernel_rfl) (by kernel_rfl) (fun _ _ _ h => h) (Or.inl ⟨by rfl, ?_⟩) (by assumption) ?_
    rotate_left
    · (intro w hSw; (try dsimp only at hSw); go_simp <;> (with_reducible rfl))
    try simp only [Act.put, List.setIfInBounds_toArray, List.set_cons_zero, List.set_cons_succ, List.getElem_toArray, List.getElem_cons_zero, List.getElem_cons_succ]
    refine wpAnyH_take (i := 10) (v := ?_) rfl (by kernel_rfl) (by kernel_rfl) (by kernel_rfl) (fun _ _ _ h => h) (Or.inl ⟨by rfl, ?_⟩) (by assumption) ?_
    rotate_left
    · (intro w hSw; (try dsimp only at hSw); go_simp <;> (with_reducible rfl))
    try simp only [Act.put, List.setIfInBounds_toArray, List.set_cons_zero, List.set_cons_succ, List.getElem_toArray, List.getElem_cons_zero, List.getElem_cons_succ]
    refine wpAnyH_ready (rs := [3]) (by kernel_rfl) (by simp) ?_
    refine AllReadyH.cons rfl (fun K hK => ?_) AllReadyH.nil
    go_simp
    go_at_call 168
    refine (HG3.out _).mono ?_
    rintro e w5 ⟨rfl, hb5⟩
    have hc5 := keepW (w := W5) ((Below.refl _ _).drew) hb5
    go_wp2_with fail
    refine hK.out _ _ ?_ (fun hHeld => ?_)
    · exact keepR HRF5.out HRT5.out hc5
    clear hK K
    try simp only [Act.put, List.setIfInBounds_toArray, List.set_cons_zero, List.set_cons_succ, List.getElem_toArray, List.getElem_cons_zero, List.getElem_cons_succ]
    refine wpAnyH_take (i := 6) (v := ?_) rfl (by kernel_rfl) (by kernel_rfl) (by kernel_rfl) (fun _ _ _ h => h) (Or.inl ⟨by rfl, ?_⟩) (by assumption) ?_
    rotate_left
    · (intro w hSw; (try dsimp only at hSw); go_simp <;> (with_reducible rfl))
    try simp only [Act.put, List.setIfInBounds_toArray, List.set_cons_zero, List.set_cons_succ, List.getElem_toArray, List.getElem_cons_zero, List.getElem_cons_succ]
    refine wpAnyH_take (i := 7) (v := ?_) rfl (by kernel_rfl) (by kernel_rfl) (by kernel_rfl) (fun _ _ _ h => h) (Or.inl ⟨by rfl, ?_⟩) (by assumption) ?_
    rotate_left
    · (intro w hSw; (try dsimp only at hSw); go_simp <;> (with_reducible rfl))
    try simp only [Act.put, List.setIfInBounds_toArray, List.set_cons_zero, List.set_cons_succ, List.getElem_toArray, List.getElem_cons_zero, List.getElem_cons_succ]
    refine wpAnyH_ready (rs := [11]) (by kernel_rfl) (by simp) ?_
    refine AllReadyH.cons rfl (fun K hK => ?_) AllReadyH.nil
    go_simp
    go_at_call 168
    refine (HG4.out _).mono ?_
    rintro e w6 ⟨rfl, hb6⟩
    have hc6 := keepW (w := W5) hc5 hb6
    go_wp2_with fail
    refine hK.out _ _ ?_ (fun hHeld => ?_)
    · exact keepR HRF5.out HRT5.out hc6
    clear hK K
    try simp only [Act.put, List.setIfInBounds_toArray, List.set_cons_zero, List.set_cons_succ, List.getElem_toArray, List.getElem_cons_zero, List.getElem_cons_succ]
    refine wpAnyH_take (i := 12) (v := ?_) rfl (by kernel_rfl) (by kernel_rfl) (by kernel_rfl) (fun _ _ _ h => h) (Or.inl ⟨by rfl, ?_⟩) (by assumption) ?_
    rotate_left
    · (intro w hSw; (try dsimp only at hSw); go_simp <;> (with_reducible rfl))
    try simp only [Act.put, List.setIfInBounds_toArray, List.set_cons_zero, List.set_cons_succ, List.getElem_toArray, List.getElem_cons_zero, List.getElem_cons_succ]
    refine wpAnyH_take (i := 13) (v := ?_) rfl (by kernel_rfl) (by kernel_rfl) (by kernel_rfl) (fun _ _ _ h => h) (Or.inl ⟨by rfl, ?_⟩) (by assumption) ?_
    rotate_left
    · (intro w hSw; (try dsimp only at hSw); go_simp <;> (with_reducible rfl))
    try simp only [Act.put, List.setIfInBounds_toArray, List.set_cons_zero, List.set_cons_succ, List.getElem_toArray, List.getElem_cons_zero, List.getElem_cons_succ]
    refine wpAnyH_done (by kernel_rfl) ?_ _
    go_wp2_with fail
    go_meet
    exact ⟨rfl, Lib.hid (HB5.out.trans (hc6.mono HB5.out.size))⟩
  case rest =>
  obtain ⟨rfl, HB6⟩ := hcut
  go_wp2_with fail
  go_ret2
  have e1 : ((g1 + 1 + g2 : Nat) : Int) = (g1 : Int) + 1 + (g2 : Int) := by omega
  have e2 : ((g3 + P + 1 + g4 : Nat) : Int) = (g3 : Int) + (P : Int) + 1 + (g4 : Int) := by omega
  exact ⟨by rw [H1.out, H2.out, e1, e2]; rfl, HB6.out⟩
end Go.Proofs.Ythbhengcinkepaa
