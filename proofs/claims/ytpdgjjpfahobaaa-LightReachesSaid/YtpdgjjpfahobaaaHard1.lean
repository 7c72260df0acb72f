/- The comparison that the search for the hardest target makes, and slices.MinFunc with it. -/
import Derived.Test.YtpdgjjpfahobaaaLig9
import Derived.Test.YtpdgjjpfahobaaaNear
namespace Go.Proofs.Ytpdgjjpfahobaaa
open Go.RowKit Go.Shelf Lamp

/-- More lamps needed, or as many and a less number. -/
def hardLt (na nb a b : Nat) : Bool := decide (nb < na) || (decide (nb = na) && decide (a < b))
theorem hard_lt0 (na nb a b : Nat) : decide (orI (Lib.compareInt (nb : Int) (na : Int)) (Lib.compareInt (a : Int) (b : Int)) < 0) = hardLt na nb a b := by
  unfold orI Lib.compareInt hardLt
  rw [Bool.eq_iff_iff]
  simp only [decide_eq_true_eq, Bool.or_eq_true, Bool.and_eq_true]
  repeat' split
  all_goals omega

set_option maxRecDepth 100000 in
set_option maxHeartbeats 4000000 in
theorem hd1_any (a b pn gn P na nb : Nat) (ND : List Nat) (w : World) (hp : Box w pn 28 #[.slice (some ⟨gn, 0, none⟩) P P]) (hn : Box w gn 3 (iC ND)) (hl : ND.length = P) (ha : a < P) (hb : b < P) (hna : ND.getD a 0 = na) (hnb : ND.getD b 0 = nb) :
    Calls Try.prog 101 #[.int .i64 a, .int .i64 b, .pointer (some ⟨pn, 0, none⟩)] w fun e w' => e = .returned (.int .i64 (orI (Lib.compareInt (nb : Int) (na : Int)) (Lib.compareInt (a : Int) (b : Int)))) ∧ Below w.heap.size w w' := by
  have c0 := hp.cell 0
  simp only [List.getElem?_toArray, List.getElem?_cons_zero] at c0
  have ca := hn.cell a
  rw [iC_at _ _ (by omega), hna] at ca
  have cb := hn.cell b
  rw [iC_at _ _ (by omega), hnb] at cb
  have C0 := Lib.hid c0
  have CA := Lib.hid ca
  have CB := Lib.hid cb
  have ha' : (a : Int) < (P : Int) := by omega
  have hb' : (b : Int) < (P : Int) := by omega
  have hlp := hp.lt
  have hln := hn.lt
  clear c0 ca cb hp hn hl hna hnb
  go_enter Try.func101, Try.ntmps101
  go_wp2_with fail
  refine wp_region_held_drew (S := fun W => W.cell? ⟨pn, 0, none⟩ = some (.slice (some ⟨gn, 0, none⟩) P P) ∧ W.cell? ⟨gn, a, none⟩ = some (.int .i64 (na : Nat)) ∧ W.cell? ⟨gn, b, none⟩ = some (.int .i64 (nb : Nat))) (by kernel_rfl) ⟨C0.out, CA.out, CB.out⟩ (fun hHeld => ?_)
  refine wpAnyH_take (i := 0) (v := ?_) rfl (by kernel_rfl) (by kernel_rfl) (by kernel_rfl) (fun _ _ _ h => h) (Or.inl ⟨by rfl, ?_⟩) (by assumption) ?_
  rotate_left
  · (intro w hSw; (try dsimp only at hSw); go_simp <;> (with_reducible rfl))
  try simp only [Act.put, List.setIfInBounds_toArray, List.set_cons_zero, List.set_cons_succ, List.getElem_toArray, List.getElem_cons_zero]
  refine wpAnyH_take (i := 1) (v := ?_) rfl (by kernel_rfl) (by kernel_rfl) (by kernel_rfl) (fun _ _ _ h => h) (Or.inl ⟨by rfl, ?_⟩) (by assumption) ?_
  rotate_left
  · (intro w hSw; (try dsimp only at hSw); go_simp <;> (with_reducible rfl))
  try simp only [Act.put, List.setIfInBounds_toArray, List.set_cons_zero, List.set_cons_succ, List.getElem_toArray, List.getElem_cons_zero, List.getElem_cons_succ]
  refine wpAnyH_take (i := 2) (v := ?_) rfl (by kernel_rfl) (by kernel_rfl) (by kernel_rfl) (fun _ _ _ h => h) (Or.inl ⟨by rfl, ?_⟩) (by assumption) ?_
  rotate_left
  · (intro w hSw; (try dsimp only at hSw); go_simp <;> (with_reducible rfl))
  try simp only [Act.put, List.setIfInBounds_toArray, List.set_cons_zero, List.set_cons_succ, List.getElem_toArray, List.getElem_cons_zero, List.getElem_cons_succ]
  refine wpAnyH_take (i := 3) (v := ?_) rfl (by kernel_rfl) (by kernel_rfl) (by kernel_rfl) (fun _ _ _ h => h) (Or.inl ⟨by rfl, ?_⟩) (by assumption) ?_
  rotate_left
  · (intro w hSw; (try dsimp only at hSw); go_simp <;> (with_reducible rfl))
  try simp only [Act.put, List.setIfInBounds_toArray, List.set_cons_zero, List.set_cons_succ, List.getElem_toArray, List.getElem_cons_zero, List.getElem_cons_succ]
  refine wpAnyH_take (i := 4) (v := ?_) rfl (by kernel_rfl) (by kernel_rfl) (by kernel_rfl) (fun _ _ _ h => h) (Or.inl ⟨by rfl, ?_⟩) (by assumption) ?_
  rotate_left
  · (intro w hSw; (try dsimp only at hSw); go_simp <;> (with_reducible rfl))
  try simp only [Act.put, List.setIfInBounds_toArray, List.set_cons_zero, List.set_cons_succ, List.getElem_toArray, List.getElem_cons_zero, List.getElem_cons_succ]
  refine wpAnyH_take (i := 5) (v := ?_) rfl (by kernel_rfl) (by kernel_rfl) (by kernel_rfl) (fun _ _ _ h => h) (Or.inl ⟨by rfl, ?_⟩) (by assumption) ?_
  rotate_left
  · (intro w hSw; (try dsimp only at hSw); go_simp <;> (with_reducible rfl))
  try simp only [Act.put, List.setIfInBounds_toArray, List.set_cons_zero, List.set_cons_succ, List.getElem_toArray, List.getElem_cons_zero, List.getElem_cons_succ]
  refine wpAnyH_take (i := 6) (v := ?_) rfl (by kernel_rfl) (by kernel_rfl) (by kernel_rfl) (fun _ _ _ h => h) (Or.inl ⟨by rfl, ?_⟩) (by assumption) ?_
  rotate_left
  · (intro w hSw; (try dsimp only at hSw); go_simp <;> (with_reducible rfl))
  try simp only [Act.put, List.setIfInBounds_toArray, List.set_cons_zero, List.set_cons_succ, List.getElem_toArray, List.getElem_cons_zero, List.getElem_cons_succ]
  refine wpAnyH_take (i := 7) (v := ?_) rfl (by kernel_rfl) (by kernel_rfl) (by kernel_rfl) (fun _ _ _ h => h) (Or.inl ⟨by rfl, ?_⟩) (by assumption) ?_
  rotate_left
  · (intro w hSw; (try dsimp only at hSw); go_simp <;> (with_reducible rfl))
  try simp only [Act.put, List.setIfInBounds_toArray, List.set_cons_zero, List.set_cons_succ, List.getElem_toArray, List.getElem_cons_zero, List.getElem_cons_succ]
  refine wpAnyH_take (i := 9) (v := ?_) rfl (by kernel_rfl) (by kernel_rfl) (by kernel_rfl) (fun _ _ _ h => h) (Or.inl ⟨by rfl, ?_⟩) (by assumption) ?_
  rotate_left
  · (intro w hSw; (try dsimp only at hSw); go_simp <;> (with_reducible rfl))
  try simp only [Act.put, List.setIfInBounds_toArray, List.set_cons_zero, List.set_cons_succ, List.getElem_toArray, List.getElem_cons_zero, List.getElem_cons_succ]
  refine wpAnyH_take (i := 10) (v := ?_) rfl (by kernel_rfl) (by kernel_rfl) (by kernel_rfl) (fun _ _ _ h => h) (Or.inl ⟨by rfl, ?_⟩) (by assumption) ?_
  rotate_left
  · (intro w hSw; (try dsimp only at hSw); go_simp <;> (with_reducible rfl))
  try simp only [Act.put, List.setIfInBounds_toArray, List.set_cons_zero, List.set_cons_succ, List.getElem_toArray, List.getElem_cons_zero, List.getElem_cons_succ]
  refine wpAnyH_ready (rs := [8]) (by kernel_rfl) (by simp) ?_
  refine AllReadyH.cons rfl (fun K hK => ?_) AllReadyH.nil
  go_simp
  go_at_call 94
  refine (Try.cmp_Compare_int _ _ _).mono ?_
  rintro e w' ⟨rfl, rfl⟩
  go_wp2_with fail
  refine hK.out _ _ ?_ (fun hHeld => ?_)
  · exact hHeld
  clear hK K
  try simp only [Act.put, List.setIfInBounds_toArray, List.set_cons_zero, List.set_cons_succ, List.getElem_toArray, List.getElem_cons_zero, List.getElem_cons_succ]
  refine wpAnyH_ready (rs := [11]) (by kernel_rfl) (by simp) ?_
  refine AllReadyH.cons rfl (fun K hK => ?_) AllReadyH.nil
  go_simp
  go_at_call 94
  refine (Try.cmp_Compare_int _ _ _).mono ?_
  rintro e w' ⟨rfl, rfl⟩
  go_wp2_with fail
  refine hK.out _ _ ?_ (fun hHeld => ?_)
  · exact hHeld
  clear hK K
  try simp only [Act.put, List.setIfInBounds_toArray, List.set_cons_zero, List.set_cons_succ, List.getElem_toArray, List.getElem_cons_zero, List.getElem_cons_succ]
  refine wpAnyH_ready (rs := [12]) (by kernel_rfl) (by simp) ?_
  refine AllReadyH.cons rfl (fun K hK => ?_) AllReadyH.nil
  go_simp
  refine hK.out _ _ ?_ (fun hHeld => ?_)
  · exact ⟨(((Below.refl w.drew.heap.size w.drew).alloc (Nat.le_refl _) _).cell (p := ⟨pn, 0, none⟩) hlp).trans C0.out, (((Below.refl w.drew.heap.size w.drew).alloc (Nat.le_refl _) _).cell (p := ⟨gn, a, none⟩) hln).trans CA.out, (((Below.refl w.drew.heap.size w.drew).alloc (Nat.le_refl _) _).cell (p := ⟨gn, b, none⟩) hln).trans CB.out⟩
  clear hK K
  try simp only [Act.put, List.setIfInBounds_toArray, List.set_cons_zero, List.set_cons_succ, List.getElem_toArray, List.getElem_cons_zero, List.getElem_cons_succ]
  refine wpAnyH_ready (rs := [13]) (by kernel_rfl) (by simp) ?_
  refine AllReadyH.cons rfl (fun K hK => ?_) AllReadyH.nil
  go_simp
  go_at_call 102
  refine (Or_two w.heap.size 2 (Lib.compareInt (nb : Int) (na : Int)) (Lib.compareInt (a : Int) (b : Int)) _ ((Box.new w.drew 3 #[.int .i64 (Lib.compareInt (nb : Int) (na : Int)), .int .i64 (Lib.compareInt (a : Int) (b : Int))]).cell 0) ((Box.new w.drew 3 #[.int .i64 (Lib.compareInt (nb : Int) (na : Int)), .int .i64 (Lib.compareInt (a : Int) (b : Int))]).cell 1)).mono ?_
  rintro e w' ⟨rfl, rfl⟩
  go_wp2_with fail
  refine hK.out _ _ ?_ (fun hHeld => ?_)
  · exact hHeld
  clear hK K
  try simp only [Act.put, List.setIfInBounds_toArray, List.set_cons_zero, List.set_cons_succ, List.getElem_toArray, List.getElem_cons_zero, List.getElem_cons_succ]
  refine wpAnyH_take (i := 14) (v := ?_) rfl (by kernel_rfl) (by kernel_rfl) (by kernel_rfl) (fun _ _ _ h => h) (Or.inl ⟨by rfl, ?_⟩) (by assumption) ?_
  rotate_left
  · (intro w hSw; (try dsimp only at hSw); go_simp <;> (with_reducible rfl))
  try simp only [Act.put, List.setIfInBounds_toArray, List.set_cons_zero, List.set_cons_succ, List.getElem_toArray, List.getElem_cons_zero, List.getElem_cons_succ]
  refine wpAnyH_done (by kernel_rfl) ?_ _
  go_wp2_with fail
  go_ret
  exact ⟨rfl, (below_drewN (Below.refl _ w) 1).alloc (Nat.le_refl _) _⟩

/-- The hardest of the first k + 1 targets. -/
def minK (ND T : List Nat) : Nat → Nat
  | 0 => T.getD 0 0
  | k + 1 => if hardLt (ND.getD (T.getD (k + 1) 0) 0) (ND.getD (minK ND T k) 0) (T.getD (k + 1) 0) (minK ND T k) then T.getD (k + 1) 0 else minK ND T k
theorem minK_lt {ND T : List Nat} {P : Nat} (hT : ∀ t ∈ T, t < P) (hP : 0 < P) (k : Nat) : minK ND T k < P := by
  induction k with
  | zero => exact getD_lt hT hP 0
  | succ k ih =>
    rw [minK]
    split
    · exact getD_lt hT hP _
    · exact ih

set_option maxRecDepth 100000 in
set_option maxHeartbeats 4000000 in
theorem MinFunc_any (A : Option Addr) (T : List Nat) (n c pn gn P : Nat) (ND : List Nat) (w : World) (hn' : n = T.length) (hT : RInts w w.heap.size A (natV T)) (hT1 : 1 ≤ T.length) (hTl : T.length ≤ 1000000) (hTP : ∀ t ∈ T, t < P) (hp : Box w pn 28 #[.slice (some ⟨gn, 0, none⟩) P P]) (hn : Box w gn 3 (iC ND)) (hl : ND.length = P) (hP : 0 < P) :
    Calls Try.prog 100 #[.slice A n c, .func (.func 101) #[] #[.pointer (some ⟨pn, 0, none⟩)]] w fun e w' => e = .returned (.int .i64 (minK ND T (T.length - 1) : Nat)) ∧ Below w.heap.size w w' := by
  subst hn'
  have HR := Lib.hid hT
  have HTP := Lib.hid hTP
  have HPB := Lib.hid hp
  have HNB := Lib.hid hn
  have hT0 : ¬ (T.length : Int) < 1 := by omega
  obtain ⟨b0, o0, x0, hA, hb0, hx0, hc0⟩ := hT.at_ (k := 0) (by rw [natV_len]; omega)
  obtain ⟨y0, hxy0, hy0⟩ : ∃ y : Nat, x0 = (y : Int) ∧ T.getD 0 0 = y := ⟨_, (natV_at hx0).1, rfl⟩
  subst hxy0
  have HY0 := Lib.hid hy0
  have hc1 : w.cell? ⟨b0, o0, none⟩ = some (.int .i64 (y0 : Int)) := by simpa using hc0
  have hT1' : (1 : Int) ≤ (T.length : Int) := by omega
  have hT2 : (0 : Int) < (T.length : Int) := by omega
  have hTn : 0 < T.length := by omega
  subst hA
  clear hT hTP hp hn hx0 hy0 hc0
  go_enter Try.func100, Try.ntmps100
  go_wp2_with fail
  clear hc1
  go_loopw [5, 6] (fun mv i wr => ∃ (k y : Nat), mv = .int .i64 (y : Nat) ∧ i = .int .i64 ((k : Int) + 1) ∧ k + 1 ≤ T.length ∧ Hid (minK ND T k = y) ∧ Hid (Below w.heap.size w wr)) (fun _ i _ => T.length - (intOf i).toNat)
  case atStart => exact ⟨0, y0, rfl, rfl, hT1, HY0, Lib.hid (Below.refl _ _)⟩
  case round =>
    obtain ⟨k, y, rfl, rfl, hk, HM1, HB1⟩ := hrel
    have HM := HM1
    have HB := HB1
    clear HM1 HB1
    by_cases hlt : k + 1 < T.length
    · obtain ⟨b, o, x, hA, hb, hx, hcx⟩ := (HR.out.below HB.out).at_ (k := k + 1) (by rw [natV_len]; exact hlt)
      cases hA
      obtain ⟨z, rfl, hz⟩ : ∃ z : Nat, x = (z : Int) ∧ T.getD (k + 1) 0 = z := ⟨_, (natV_at hx).1, rfl⟩
      have hzP : z < P := by rw [← hz]; exact getD_lt HTP.out hP _
      have hyP : y < P := by rw [← HM.out]; exact minK_lt HTP.out hP k
      obtain ⟨nz, hnz⟩ : ∃ q, ND.getD z 0 = q := ⟨_, rfl⟩
      obtain ⟨ny, hny⟩ : ∃ q, ND.getD y 0 = q := ⟨_, rfl⟩
      have HZ := Lib.hid hnz
      have HY := Lib.hid hny
      have HE := Lib.hid (show minK ND T (k + 1) = if hardLt nz ny z y then z else y by rw [minK, hz, HM.out, hnz, hny])
      have hlt' : (k : Int) + 1 < (T.length : Int) := by omega
      have hcx2 : wr.cell? ⟨b0, o0 + (k + 1), none⟩ = some (.int .i64 (z : Int)) := hcx
      have hk1 : ((k : Int) + 1).toNat = k + 1 := by omega
      have h0 := hard_lt0 nz ny z y
      have HBK := Lib.hid hb
      clear hx hz hnz hny hcx
      obtain ⟨ord, hord⟩ : ∃ r, orI (Lib.compareInt (ny : Int) (nz : Int)) (Lib.compareInt (z : Int) (y : Int)) = r := ⟨_, rfl⟩
      have HORD := Lib.hid hord
      rw [hord] at h0
      clear hord
      cases hh : hardLt nz ny z y
      · rw [hh] at h0 HE
        have h1 := of_decide_eq_false h0
        clear h0 hh
        go_wp2_with fail
        refine (hd1_any z y pn gn P nz ny ND wr (HPB.out.below HB.out HPB.out.lt) (HNB.out.below HB.out HNB.out.lt) hl hzP hyP HZ.out HY.out).mono ?_
        rintro e w2 ⟨rfl, hb2⟩
        rw [HORD.out]
        have HB2 := Lib.hid (HB.out.trans (hb2.mono HB.out.size))
        clear hb2 hcx2
        go_wp2_with fail
        go_roundw
        case rel => exact ⟨k + 1, y, rfl, by go_num, by omega, Lib.hid (by rw [HE.out]; rfl), HB2⟩
        case measure => simp [intOf]; omega
      · rw [hh] at h0 HE
        have h1 := of_decide_eq_true h0
        clear h0 hh
        go_wp2_with fail
        refine (hd1_any z y pn gn P nz ny ND wr (HPB.out.below HB.out HPB.out.lt) (HNB.out.below HB.out HNB.out.lt) hl hzP hyP HZ.out HY.out).mono ?_
        rintro e w2 ⟨rfl, hb2⟩
        rw [HORD.out]
        have HB2 := Lib.hid (HB.out.trans (hb2.mono HB.out.size))
        have hcx3 := (hb2.cell (p := ⟨b0, o0 + (k + 1), none⟩) (Nat.lt_of_lt_of_le HBK.out HB.out.size)).trans hcx2
        clear hb2 hcx2
        go_wp2_with fail
        clear hcx3
        go_roundw
        case rel => exact ⟨k + 1, z, rfl, by go_num, by omega, Lib.hid (by rw [HE.out]; rfl), HB2⟩
        case measure => simp [intOf]; omega
    · have hkT : T.length - 1 = k := by omega
      have hge : ¬ (k : Int) + 1 < (T.length : Int) := by omega
      go_wp2_with fail
      go_ret
      exact ⟨ret_int (by rw [HM.out]), HB.out⟩
end Go.Proofs.Ytpdgjjpfahobaaa
