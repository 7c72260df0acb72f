/- The statements' function common: the degree of the greatest common divisor of two polynomials. -/
import Derived.Test.YtpdgjjpfahobaaaDeg1
import Derived.Deep.LoopGhost
import Derived.RegionTactic
namespace Go.Proofs.Ytpdgjjpfahobaaa
open Go.RowKit Lamp

/-- How many bits a number has. -/
def dn (v : Nat) : Nat := if v = 0 then 0 else v.log2 + 1
theorem dn_le {v k : Nat} (h : v < 2 ^ k) : dn v ≤ k := by
  unfold dn
  split
  · omega
  · rename_i h0; have := log2_lt' h0 h; omega
theorem degL_dn {l : List Nat} (h2 : ∀ x ∈ l, x < 2) : degL l = (dn (valN l) : Int) - 1 := by
  unfold dn
  by_cases h : valN l = 0
  · rw [degL_zero h2 h, if_pos h]; rfl
  · rw [degL_val h2 h, if_neg h]; omega
/-- What adding one polynomial to another one has done from place j on. -/
def mixC (A B : List Nat) (N s d j : Nat) : List Nat := (List.range N).map fun i => if s + j ≤ i ∧ i ≤ s + d then (A.getD i 0 + B.getD (i - s) 0) % 2 else A.getD i 0
theorem mixC_len (A B : List Nat) (N s d j : Nat) : (mixC A B N s d j).length = N := by simp [mixC]
theorem mixC_at (A B : List Nat) (N s d j i : Nat) (h : i < N) : (mixC A B N s d j).getD i 0 = if s + j ≤ i ∧ i ≤ s + d then (A.getD i 0 + B.getD (i - s) 0) % 2 else A.getD i 0 := by
  simp [mixC, List.getD_eq_getElem?_getD, h]
theorem mixC_start (A B : List Nat) (N s d : Nat) (hA : A.length = N) : mixC A B N s d (d + 1) = A := by
  refine list_same (by rw [mixC_len, hA]) fun i => ?_
  by_cases hi : i < N
  · rw [mixC_at _ _ _ _ _ _ _ hi, if_neg (by omega)]
  · rw [getD_out (by rw [mixC_len]; omega), getD_out (by omega)]
theorem mixC_set (A B : List Nat) (N s d j : Nat) (hj : j ≤ d) : (mixC A B N s d (j + 1)).set (j + s) ((A.getD (j + s) 0 + B.getD j 0) % 2) = mixC A B N s d j := by
  refine list_same (by rw [List.length_set, mixC_len, mixC_len]) fun i => ?_
  by_cases hi : i < N
  · rw [mixC_at _ _ _ _ _ _ _ hi]
    by_cases e : j + s = i
    · subst e
      rw [if_pos (by omega), show j + s - s = j by omega]
      simp [List.getD_eq_getElem?_getD, mixC_len, hi]
    · have h1 : ((mixC A B N s d (j + 1)).set (j + s) ((A.getD (j + s) 0 + B.getD j 0) % 2)).getD i 0 = (mixC A B N s d (j + 1)).getD i 0 := by
        simp [List.getD_eq_getElem?_getD, e]
      rw [h1, mixC_at _ _ _ _ _ _ _ hi]
      by_cases h2 : s + j ≤ i ∧ i ≤ s + d
      · rw [if_pos h2, if_pos (by omega)]
      · rw [if_neg h2, if_neg (by omega)]
  · rw [getD_out (by rw [List.length_set, mixC_len]; omega), getD_out (by rw [mixC_len]; omega)]
theorem mixC_two {A B : List Nat} {N s d j : Nat} (hA : ∀ x ∈ A, x < 2) : ∀ x ∈ mixC A B N s d j, x < 2 := by
  intro x hx
  obtain ⟨i, _, rfl⟩ := List.mem_map.1 hx
  split
  · omega
  · exact getD_lt (M := 2) hA (by decide) i
theorem bit_add2 {a b : Nat} (ha : a < 2) (hb : b < 2) : decide ((a + b) % 2 = 1) = (decide (a = 1)).xor (decide (b = 1)) := by
  have h1 : a = 0 ∨ a = 1 := by omega
  have h2 : b = 0 ∨ b = 1 := by omega
  rcases h1 with rfl | rfl <;> rcases h2 with rfl | rfl <;> rfl
theorem mixC_val {A B : List Nat} {N s d : Nat} (hA : ∀ x ∈ A, x < 2) (hB : ∀ x ∈ B, x < 2) (_hb0 : valN B ≠ 0) (hd : (valN B).log2 = d) (hN : s + d < N) (hAl : A.length = N) : valN (mixC A B N s d 0) = valN A ^^^ valN B * 2 ^ s := by
  apply Nat.eq_of_testBit_eq
  intro i
  rw [valN_bit, Nat.testBit_xor, mul_bit, valN_bit, valN_bit]
  by_cases hi : i < N
  · rw [mixC_at _ _ _ _ _ _ _ hi]
    by_cases h1 : s + 0 ≤ i ∧ i ≤ s + d
    · rw [if_pos h1, bit_add2 (getD_lt (M := 2) hA (by decide) i) (getD_lt (M := 2) hB (by decide) _)]
      have : decide (s ≤ i) = true := by simp; omega
      rw [this, Bool.true_and]
    · rw [if_neg h1]
      by_cases h2 : s ≤ i
      · have h3 := testBit_above (n := valN B) (i := i - s) (by omega)
        rw [valN_bit] at h3
        rw [h3]; simp
      · simp [h2]
  · have h3 := testBit_above (n := valN B) (i := i - s) (by omega)
    rw [valN_bit] at h3
    rw [getD_out (by rw [mixC_len]; omega), getD_out (l := A) (by omega), h3]
    simp
/-- The fuel of the division. -/
def fuel (a b : Nat) : Nat := 2 * (dn a + dn b) + if dn a < dn b then 1 else 0
theorem fuel_swap {a b : Nat} (h : dn a < dn b) : fuel b a < fuel a b := by
  unfold fuel
  rw [if_pos h, if_neg (by omega)]
  omega
theorem step_less {a b s : Nat} (hb : b ≠ 0) (ha : a ≠ 0) (h : a.log2 = b.log2 + s) : dn (a ^^^ b * 2 ^ s) < dn a := by
  have h1 : a ^^^ b * 2 ^ s < 2 ^ a.log2 := by
    refine xor_tops (log2_le ha) (lt_log2 a) ?_ ?_
    · rw [h, Nat.pow_add]
      exact Nat.mul_le_mul_right _ (log2_le hb)
    · rw [h, show b.log2 + s + 1 = b.log2 + 1 + s by omega, Nat.pow_add]
      exact Nat.mul_lt_mul_of_pos_right (lt_log2 b) (Nat.two_pow_pos s)
  have h2 := dn_le h1
  have h3 : dn a = a.log2 + 1 := by unfold dn; rw [if_neg ha]
  omega
theorem fuel_step {a b s : Nat} (hb : b ≠ 0) (ha : a ≠ 0) (h : a.log2 = b.log2 + s) : fuel (a ^^^ b * 2 ^ s) b < fuel a b := by
  have h1 := step_less hb ha h
  unfold fuel
  split <;> split <;> omega

theorem RowN.of_own {w : World} {base n : Nat} {v : Value} {l : List Nat} (h : w.ownsRow base 3 1 v n ((natV l).map (Value.int .i64))) (hpos : 1 ≤ l.length) : ∃ g k, v = .slice (some ⟨g, 0, none⟩) l.length k ∧ base ≤ g ∧ RowN w g l := by
  obtain ⟨g, k, e, hb, ho⟩ := OwnR.of_own h (by rw [natV_len]; exact hpos)
  rw [natV_len] at e
  obtain ⟨cur, hx, h1, h2, _, h4⟩ := ho.box
  rw [natV_len] at h2 h4
  refine ⟨g, k, e, hb, cur, hx, by omega, fun i hi => ?_⟩
  have h5 := congrArg (fun q => q[i]?) h4
  simp only [List.getElem?_take, if_pos hi, List.getElem?_map] at h5
  rw [natV_getD hi] at h5
  simpa using h5

set_option maxRecDepth 100000 in
set_option maxHeartbeats 8000000 in
theorem common_any (gf gg N : Nat) (cf cg : Nat) (lf lg : List Nat) (w : World) (hf : Box w gf 3 (iC lf)) (hg : Box w gg 3 (iC lg)) (hlf : lf.length = N) (hlg : lg.length = N) (hN1 : 1 ≤ N) (hN : N ≤ 1000) (hf2 : ∀ x ∈ lf, x < 2) (hg2 : ∀ x ∈ lg, x < 2) (hf0 : valN lf ≠ 0) {d : Nat} (hd : IsDeg (valN lf) (valN lg) d) :
    Calls Try.prog 51 #[.slice (some ⟨gf, 0, none⟩) N cf, .slice (some ⟨gg, 0, none⟩) N cg] w fun e w' => e = .returned (.int .i64 (d : Int)) ∧ Below w.heap.size w w' := by
  obtain ⟨i0, hi, hz0, hz1, hz2⟩ := info_parts Try.info3
  have hnews : ∀ {W : World} {g : Nat} {l : List Nat}, Box W g 3 (iC l) → ∀ (j : Nat) (u : Value), ((natV l).map (Value.int .i64))[j]? = some u → W.cell? ((⟨g, 0, none⟩ : Addr).add j) = some u := fun {W g l} hb j u hu => by
    obtain ⟨b2, o2, e, _, hc⟩ := box_reads hb j u hu
    cases e
    rw [Go.WideShapes.add_plain]
    exact hc
  have HNF := Lib.hid (hnews hf)
  have HNG := Lib.hid (fun (W : World) (hb : Below w.heap.size w W) => hnews (hg.below hb hg.lt))
  have HLF := Lib.hid (show ((natV lf).map (Value.int .i64)).length = N * 1 by simp [natV, hlf])
  have HLG := Lib.hid (show ((natV lg).map (Value.int .i64)).length = N * 1 by simp [natV, hlg])
  have hone : ∀ l : List Nat, ∀ u ∈ (natV l).map (Value.int .i64), u.oneCell' = true := fun l u hu => by
    obtain ⟨z, _, rfl⟩ := List.mem_map.1 hu; rfl
  have HOF := Lib.hid (hone lf)
  have HOG := Lib.hid (hone lg)
  have hk1 : 0 + N ≤ maxLen := by unfold maxLen; omega
  have hk2 : (0 + N) * 8 ≤ 140737488355328 := by omega
  have H0 := Lib.hid (fun W : World => show W.ownsRow W.heap.size 3 1 (.slice none 0 0) 0 [] from ⟨by simp, .inl ⟨rfl, rfl⟩⟩)
  have HF2 := Lib.hid hf2
  have HG2 := Lib.hid hg2
  have HD := Lib.hid hd
  have HF0 := Lib.hid hf0
  have hvf := dn_le (val_lt lf)
  have hvg := dn_le (val_lt lg)
  rw [hlf] at hvf
  rw [hlg] at hvg
  have HLLF := Lib.hid hlf
  have HLLG := Lib.hid hlg
  clear hf hg hf2 hg2 hd hf0 hnews hone hlf hlg
  go_enter Try.func51, Try.ntmps51
  go_upto_region 2 with fail
  go_upto_region 3 with (at_builtin; refine wpList_append_own _ rfl _ _ 28 rfl w.heap.size 3 i0 (.int .i64 0) 1 8 Try.underlying28 hi hz0 hz1 hz2 rfl (by decide) _ _ _ rfl (H0.out w) ⟨gf, 0, none⟩ N cf ((natV lf).map (Value.int .i64)) rfl HLF.out HNF.out HOF.out hk1 hk2 (Nat.le_refl _) ?_; intro v1 w1 hown1 hg1 _)
  have HB1 := Lib.hid (show Below w.heap.size w w1 from (Below.refl _ w).grown hg1 (Nat.le_refl _) (fun k hk => by cases hk))
  rw [List.nil_append] at hown1
  obtain ⟨pa, ca, hv1, hpa, hra⟩ := RowN.of_own hown1 (by rw [HLLF.out]; exact hN1)
  rw [HLLF.out] at hv1
  have HRA := Lib.hid hra
  subst hv1
  clear hown1 hg1 hra
  have hnews1 := Lib.hid (HNG.out w1 HB1.out)
  go_wp2_with (at_builtin; refine wpList_append_own _ rfl _ _ 28 rfl w1.heap.size 3 i0 (.int .i64 0) 1 8 Try.underlying28 hi hz0 hz1 hz2 rfl (by decide) _ _ _ rfl (H0.out w1) ⟨gg, 0, none⟩ N cg ((natV lg).map (Value.int .i64)) rfl HLG.out hnews1.out HOG.out hk1 hk2 (Nat.le_refl _) ?_; intro v2 w2 hown2 hg2 _)
  have HBX := Lib.hid (show Below w1.heap.size w1 w2 from (Below.refl _ w1).grown hg2 (Nat.le_refl _) (fun k hk => by cases hk))
  have HB2 := Lib.hid (HB1.out.trans (HBX.out.mono HB1.out.size))
  rw [List.nil_append] at hown2
  obtain ⟨pb, cb, hv2, hpb, hrb⟩ := RowN.of_own hown2 (by rw [HLLG.out]; exact hN1)
  rw [HLLG.out] at hv2
  have HRB := Lib.hid hrb
  have HRA2 := Lib.hid (HRA.out.below HBX.out HRA.out.lt)
  have hpne : pa ≠ pb := by have := HRA.out.lt; omega
  have hpb' : w.heap.size ≤ pb := by have := HB1.out.size; omega
  subst hv2
  clear hown2 hg2 hrb HBX HB1 HRA hnews1 HNF HNG HLF HLG HOF HOG H0 hpb
  go_loopg [5, 6] (4 * N + 2) (fun gk av bv wr => ∃ (A B : List Nat) (p q c1 c2 : Nat), av = .slice (some ⟨p, 0, none⟩) N c1 ∧ bv = .slice (some ⟨q, 0, none⟩) N c2 ∧ p ≠ q ∧ w.heap.size ≤ p ∧ w.heap.size ≤ q ∧ A.length = N ∧ B.length = N ∧ fuel (valN A) (valN B) + 1 ≤ gk ∧ Hid (∀ x ∈ A, x < 2) ∧ Hid (∀ x ∈ B, x < 2) ∧ Hid (valN A ≠ 0 ∨ valN B ≠ 0) ∧ Hid (∀ n, IsDeg (valN A) (valN B) n → IsDeg (valN lf) (valN lg) n) ∧ Hid (RowN wr p A) ∧ Hid (RowN wr q B) ∧ Hid (Below w.heap.size w wr))
  case atStart =>
    refine ⟨lf, lg, pa, pb, ca, cb, rfl, rfl, hpne, hpa, hpb', HLLF.out, HLLG.out, ?_, HF2, HG2, Lib.hid (.inl HF0.out), Lib.hid (fun n h => h), HRA2, HRB, HB2⟩
    unfold fuel
    split <;> omega
  case round =>
    obtain ⟨A, B, p, q, c1, c2, rfl, rfl, hpq, hp, hq, hA, hB, hfu, HA1, HB1, HZ1, HI1, HP1, HQ1, HW1⟩ := hrel
    have HA := HA1
    have HBB := HB1
    have HZ := HZ1
    have HI := HI1
    have HP := HP1
    have HQ := HQ1
    have HW := HW1
    clear HA1 HB1 HZ1 HI1 HP1 HQ1 HW1 HRA2 HRB HB2
    have HDA := Lib.hid (degL_dn HA.out)
    have HDB := Lib.hid (degL_dn HBB.out)
    obtain ⟨da, hda⟩ : ∃ q, dn (valN A) = q := ⟨_, rfl⟩
    obtain ⟨db, hdb⟩ : ∃ q, dn (valN B) = q := ⟨_, rfl⟩
    rw [hda] at HDA
    rw [hdb] at HDB
    have HCA := Lib.hid (fun W (h : RowN W p A) => ldegree_any p N c1 A W hA.symm h (by omega) HDA.out)
    have HCB := Lib.hid (fun W (h : RowN W q B) => ldegree_any q N c2 B W hB.symm h (by omega) HDB.out)
    by_cases hb0 : valN B = 0
    · have hdb0 : db = 0 := by rw [← hdb, hb0]; rfl
      have ha0 := HZ.out.resolve_right (fun h => h hb0)
      have hdal : da = (valN A).log2 + 1 := by rw [← hda]; unfold dn; rw [if_neg ha0]
      have HR := Lib.hid (show (valN A).log2 = d from IsDeg.one (HI.out _ (by rw [hb0]; exact IsDeg.last ha0)) HD.out)
      have hge : ¬ (0 : Int) ≤ (db : Int) - 1 := by omega
      clear hb0 hda hdb
      go_wp2_with (go_at_call 79; first | (with_reducible refine (HCB.out _ HQ.out).mono ?_; rintro e w' ⟨rfl, rfl⟩) | (with_reducible refine (HCA.out _ HP.out).mono ?_; rintro e w' ⟨rfl, rfl⟩))
      go_ret
      exact ⟨ret_int (by have := HR.out; omega), HW.out⟩
    · have hdbl : db = (valN B).log2 + 1 := by rw [← hdb]; unfold dn; rw [if_neg hb0]
      obtain ⟨eb, heb⟩ : ∃ q, (valN B).log2 = q := ⟨_, rfl⟩
      have hdbe : (db : Int) - 1 = (eb : Int) := by omega
      have hge : (0 : Int) ≤ (eb : Int) := by omega
      rw [hdbe] at HCB
      by_cases hlt : da < db
      · have hlt' : (da : Int) - 1 < (eb : Int) := by omega
        have HSW := Lib.hid (fuel_swap (a := valN A) (b := valN B) (by rw [hda, hdb]; exact hlt))
        have HZS := Lib.hid (show valN B ≠ 0 ∨ valN A ≠ 0 from .inl hb0)
        have HIS := Lib.hid (fun n (h : IsDeg (valN B) (valN A) n) => HI.out n h.swap)
        clear hb0 hda hdb
        go_wp2_with (go_at_call 79; first | (with_reducible refine (HCB.out _ HQ.out).mono ?_; rintro e w' ⟨rfl, rfl⟩) | (with_reducible refine (HCA.out _ HP.out).mono ?_; rintro e w' ⟨rfl, rfl⟩))
        go_roundg (gk - 1)
        case rel => exact ⟨B, A, q, p, c2, c1, rfl, rfl, Ne.symm hpq, hq, hp, hB, hA, by have := HSW.out; omega, HBB, HA, HZS, HIS, HQ, HP, HW⟩
        case measure => omega
      · have ha0 : valN A ≠ 0 := fun h => by
          have : da = 0 := by rw [← hda, h]; rfl
          omega
        have hdal : da = (valN A).log2 + 1 := by rw [← hda]; unfold dn; rw [if_neg ha0]
        obtain ⟨ea, hea⟩ : ∃ q, (valN A).log2 = q := ⟨_, rfl⟩
        have hdae : (da : Int) - 1 = (ea : Int) := by omega
        rw [hdae] at HCA
        obtain ⟨s, hs⟩ : ∃ s, ea - eb = s := ⟨_, rfl⟩
        have hs2 : (ea : Int) - (eb : Int) = (s : Int) := by omega
        have hlt' : ¬ (ea : Int) < (eb : Int) := by omega
        have hebA : ea < N := by
          have := val_lt A
          rw [hA] at this
          have := log2_lt' ha0 this
          omega
        have hST := Lib.hid (fuel_step hb0 ha0 (show (valN A).log2 = (valN B).log2 + s by omega))
        have HV := Lib.hid (mixC_val HA.out HBB.out hb0 heb (show s + eb < N by omega) hA)
        have HM2 := Lib.hid (mixC_two (A := A) (B := B) (N := N) (s := s) (d := eb) (j := 0) HA.out)
        have HZ2 := Lib.hid (show valN (mixC A B N s eb 0) ≠ 0 ∨ valN B ≠ 0 from .inr hb0)
        have HI2 := Lib.hid (show ∀ n, IsDeg (valN (mixC A B N s eb 0)) (valN B) n → IsDeg (valN lf) (valN lg) n from fun n h => by
          rw [HV.out] at h
          exact HI.out n (h.step s))
        have HMS := Lib.hid (mixC_start A B N s eb hA)
        have hes : eb + s = ea := by omega
        clear hb0 ha0 hda hdb hea heb hdae hdbe HDA HDB
        go_wp2_with (go_at_call 79; first | (with_reducible refine (HCB.out _ HQ.out).mono ?_; rintro e w' ⟨rfl, rfl⟩) | (with_reducible refine (HCA.out _ HP.out).mono ?_; rintro e w' ⟨rfl, rfl⟩))
        go_loopw [9] (fun i wx => ∃ j : Nat, i = .int .i64 ((j : Int) - 1) ∧ j ≤ eb + 1 ∧ Hid (RowN wx p (mixC A B N s eb j)) ∧ Hid (RowN wx q B) ∧ Hid (Below w.heap.size w wx)) (fun i _ => (intOf i + 1).toNat)
        case atStart => exact ⟨eb + 1, val_int (by omega), by omega, Lib.hid (by rw [HMS.out]; exact HP.out), HQ, HW⟩
        case round =>
          obtain ⟨j, rfl, hj, HP1, HQ1, HW1⟩ := hrel
          have HP2 := HP1
          have HQ2 := HQ1
          have HW2 := HW1
          clear HP1 HQ1 HW1 HP HQ HW
          cases j with
          | zero =>
            have hz0 : ¬ (0 : Int) ≤ ((0 : Nat) : Int) - 1 := by omega
            go_wp2_with fail
            go_roundg (gk - 1)
            case rel => exact ⟨mixC A B N s eb 0, B, p, q, c1, c2, rfl, rfl, hpq, hp, hq, mixC_len _ _ _ _ _ _, hB, by have := hST.out; rw [HV.out]; omega, HM2, HBB, HZ2, HI2, HP2, HQ2, HW2⟩
            case measure => omega
          | succ j =>
            have hj1 : ((j + 1 : Nat) : Int) - 1 = (j : Int) := by omega
            rw [hj1]
            have hjN : j + s < N := by omega
            have hca := HP2.out.cell (i := j + s) (by rw [mixC_len]; exact hjN)
            rw [mixC_at _ _ _ _ _ _ _ hjN, if_neg (by omega)] at hca
            have hfa := HP2.out.free (j + s)
            have hcb := HQ2.out.cell (i := j) (by omega)
            have ha2 : A.getD (j + s) 0 < 2 := getD_lt (M := 2) HA.out (by decide) _
            have hb2 : B.getD j 0 < 2 := getD_lt (M := 2) HBB.out (by decide) j
            have hset := mixC_set A B N s eb j (by omega)
            obtain ⟨a, haa⟩ : ∃ a, A.getD (j + s) 0 = a := ⟨_, rfl⟩
            obtain ⟨b, hbb⟩ : ∃ b, B.getD j 0 = b := ⟨_, rfl⟩
            rw [haa] at hca ha2 hset
            rw [hbb] at hcb hb2 hset
            have HSET := Lib.hid hset
            obtain ⟨t, hts⟩ : ∃ t, j + s = t := ⟨_, rfl⟩
            rw [hts] at hca hfa hjN HSET
            have hti : (j : Int) + (s : Int) = (t : Int) := by omega
            have htw : IntKind.i64.wrap ((j : Int) + (s : Int)) = (t : Int) := by rw [hti]; exact IntWalk.i64_in _ (by omega)
            have htN : (t : Int) < (N : Int) := by omega
            have ht0 : (0 : Int) ≤ (t : Int) := by omega
            have hjNi : (j : Int) < (N : Int) := by omega
            have hj0 : (0 : Int) ≤ (j : Int) := by omega
            have hwa : IntKind.i64.wrap ((a : Int) + (b : Int)) = (a : Int) + (b : Int) := IntWalk.i64_in _ (by omega)
            clear hset haa hbb hts hj1
            go_upto_region 13 with fail
            go_region
            clear hca hfa hcb
            go_wp2_with fail
            go_roundw
            case rel =>
              refine ⟨j, by go_num, by omega, Lib.hid ?_, Lib.hid ((HQ2.out.far (p := ⟨p, t, none⟩) (Ne.symm hpq) _).drewN 1), Lib.hid (below_drewN (HW2.out.setCell (p := ⟨p, t, none⟩) hp _) 1)⟩
              have h1 := (HP2.out.put (i := t) (by rw [mixC_len]; exact hjN) ((a + b) % 2) (((a : Int) + (b : Int)) % 2) (by omega)).drewN 1
              rw [HSET.out] at h1
              exact h1
            case measure => simp [intOf]
end Go.Proofs.Ytpdgjjpfahobaaa
