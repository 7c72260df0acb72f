/- The statements' function shifted: x + 1 in the place of x. -/
import Derived.Test.YtpdgjjpfahobaaaDeg1
import Derived.RegionTactic
namespace Go.Proofs.Ytpdgjjpfahobaaa
open Go.RowKit Lamp

/-- What there is so far, times x + 1: the first m of n coefficients. -/
def stepC (out : List Nat) (n m : Nat) : List Nat := (List.range n).map fun i => if i < m then (if i = 0 then out.getD 0 0 else (out.getD i 0 + out.getD (i - 1) 0) % 2) else 0
theorem stepC_len (out : List Nat) (n m : Nat) : (stepC out n m).length = n := by simp [stepC]
theorem stepC_at (out : List Nat) (n m i : Nat) (h : i < n) : (stepC out n m).getD i 0 = if i < m then (if i = 0 then out.getD 0 0 else (out.getD i 0 + out.getD (i - 1) 0) % 2) else 0 := by
  simp [stepC, List.getD_eq_getElem?_getD, h]
theorem stepC_zero (out : List Nat) (n : Nat) : List.replicate n 0 = stepC out n 0 := by
  apply List.ext_getElem?
  intro i
  by_cases hi : i < n <;> simp [stepC, hi]
theorem stepC_set (out : List Nat) (n m : Nat) : (stepC out n m).set m (if m = 0 then out.getD 0 0 else (out.getD m 0 + out.getD (m - 1) 0) % 2) = stepC out n (m + 1) := by
  apply List.ext_getElem?
  intro i
  rw [List.getElem?_set]
  unfold stepC
  by_cases hi : i < n
  · by_cases e : m = i
    · subst e; simp only [List.length_map, List.length_range, hi, if_true, List.getElem?_map, List.getElem?_range hi, Option.map_some]
      rw [if_pos (Nat.lt_succ_self m)]
    · rw [if_neg e]
      simp only [List.getElem?_map, List.getElem?_range hi, Option.map_some]
      congr 1
      by_cases h2 : i < m
      · rw [if_pos h2, if_pos (show i < m + 1 by omega)]
      · rw [if_neg h2, if_neg (show ¬ i < m + 1 by omega)]
  · by_cases e : m = i
    · subst e; simp [hi]
    · simp [hi, e]
theorem set_two (l : List Nat) (m : Nat) (u v : Nat) : (l.set m u).set m v = l.set m v := List.set_set ..
/-- One coefficient more. -/
def hornC (out : List Nat) (n b : Nat) : List Nat := (stepC out n n).set 0 (((stepC out n n).getD 0 0 + b) % 2)
theorem hornC_len (out : List Nat) (n b : Nat) : (hornC out n b).length = n := by rw [hornC, List.length_set, stepC_len]
theorem hornC_two {out : List Nat} {n b : Nat} (h : ∀ x ∈ out, x < 2) : ∀ x ∈ hornC out n b, x < 2 := by
  intro x hx
  rcases List.mem_or_eq_of_mem_set hx with hx | hx
  · obtain ⟨i, _, rfl⟩ := List.mem_map.1 hx
    split
    · split
      · exact getD_lt (M := 2) h (by decide) 0
      · omega
    · omega
  · omega
/-- The coefficients after those from k on. -/
def shC (l : List Nat) (n : Nat) : Nat → List Nat
  | 0 => List.replicate n 0
  | k + 1 => hornC (shC l n k) n (l.getD (n - 1 - k) 0)
theorem shC_len (l : List Nat) (n k : Nat) : (shC l n k).length = n := by
  cases k with
  | zero => simp [shC]
  | succ k => exact hornC_len _ _ _
theorem shC_two (l : List Nat) (n k : Nat) : ∀ x ∈ shC l n k, x < 2 := by
  induction k with
  | zero => intro x hx; simp [shC] at hx; omega
  | succ k ih => exact hornC_two ih
theorem bit_add {a b : Nat} (ha : a < 2) (hb : b < 2) : decide ((a + b) % 2 = 1) = (decide (a = 1)).xor (decide (b = 1)) := by
  have h1 : a = 0 ∨ a = 1 := by omega
  have h2 : b = 0 ∨ b = 1 := by omega
  rcases h1 with rfl | rfl <;> rcases h2 with rfl | rfl <;> rfl
theorem hornC_val {out : List Nat} {n b : Nat} (h : ∀ x ∈ out, x < 2) (hb : b < 2) (hn : 1 ≤ n) (hl : valN out * 2 < 2 ^ n) (hl2 : valN out < 2 ^ n) : valN (hornC out n b) = valN out * 2 ^^^ valN out ^^^ b := by
  apply Nat.eq_of_testBit_eq
  intro i
  have hg : ∀ j, out.getD j 0 < 2 := fun j => getD_lt (M := 2) h (by decide) j
  have hb1 : b.testBit i = (decide (i = 0) && decide (b = 1)) := by
    have h1 : b = 0 ∨ b = 1 := by omega
    rcases h1 with rfl | rfl
    · simp
    · rw [show (1 : Nat) = 2 ^ 0 from rfl, Nat.testBit_two_pow]; simp [eq_comm]
  have h2 := mul_bit (valN out) 1 i
  rw [Nat.pow_one] at h2
  rw [Nat.testBit_xor, Nat.testBit_xor, h2, valN_bit, valN_bit, valN_bit, hb1]
  by_cases hi : i < n
  · unfold hornC
    by_cases h0 : i = 0
    · subst h0
      have e : ((stepC out n n).set 0 (((stepC out n n).getD 0 0 + b) % 2)).getD 0 0 = (out.getD 0 0 + b) % 2 := by
        rw [stepC_at _ _ _ _ hi, if_pos hi, if_pos rfl]
        simp [List.getD_eq_getElem?_getD, stepC_len, hi]
      rw [e, bit_add (hg 0) hb]
      simp
    · have e : ((stepC out n n).set 0 (((stepC out n n).getD 0 0 + b) % 2)).getD i 0 = (out.getD i 0 + out.getD (i - 1) 0) % 2 := by
        have h5 := stepC_at out n n i hi
        rw [if_pos hi, if_neg h0] at h5
        rw [← h5]
        simp [List.getD_eq_getElem?_getD, Ne.symm h0]
      rw [e, bit_add (hg i) (hg (i - 1))]
      have h1 : decide (1 ≤ i) = true := by simp; omega
      have h3 : decide (i = 0) = false := by simp [h0]
      rw [h1, h3, Bool.true_and, Bool.false_and, Bool.xor_false, Bool.xor_comm]
  · rw [getD_out (by rw [hornC_len]; omega)]
    have h5 := Nat.testBit_lt_two_pow (i := i) (Nat.lt_of_lt_of_le hl (Nat.pow_le_pow_right (by decide) (by omega)))
    have h6 := Nat.testBit_lt_two_pow (i := i) (Nat.lt_of_lt_of_le hl2 (Nat.pow_le_pow_right (by decide) (by omega)))
    rw [h2, valN_bit] at h5
    rw [valN_bit] at h6
    rw [h5, h6]
    have h3 : decide (i = 0) = false := by simp; omega
    rw [h3]
    rfl
theorem div_step (v k : Nat) : v / 2 ^ k = v / 2 ^ (k + 1) * 2 ^^^ v / 2 ^ k % 2 := by
  apply Nat.eq_of_testBit_eq
  intro i
  have h2 := mul_bit (v / 2 ^ (k + 1)) 1 i
  rw [Nat.pow_one] at h2
  rw [Nat.testBit_xor, h2, Nat.testBit_div_two_pow, Nat.testBit_div_two_pow]
  cases i with
  | zero =>
    simp only [Nat.testBit_zero]
    simp [Nat.testBit_eq_decide_div_mod_eq]
  | succ i =>
    have h3 : (v / 2 ^ k % 2).testBit (i + 1) = false := by
      apply Nat.testBit_lt_two_pow
      have := Nat.mod_lt (v / 2 ^ k) (by decide : 0 < 2)
      have h4 : (2:Nat) ^ 1 ≤ 2 ^ (i + 1) := Nat.pow_le_pow_right (by decide) (by omega)
      omega
    rw [h3, Nat.add_sub_cancel, show i + 1 + k = i + (k + 1) by omega]
    simp
theorem sig_lt {v n : Nat} (h : v < 2 ^ n) : sig v < 2 ^ n := by
  by_cases h0 : v = 0
  · subst h0; exact Nat.two_pow_pos n
  · obtain ⟨h1, h2⟩ := sig_top h0
    have h3 := log2_lt' h0 h
    have h4 := lt_log2 (sig v)
    rw [h2] at h4
    exact Nat.lt_of_lt_of_le h4 (Nat.pow_le_pow_right (by decide) (by omega))
theorem sig_bit {b : Nat} (h : b < 2) : sig b = b := by
  have h1 : b = 0 ∨ b = 1 := by omega
  rcases h1 with rfl | rfl
  · rfl
  · exact cA_pow pw 0
theorem shC_val {l : List Nat} (h2 : ∀ x ∈ l, x < 2) : ∀ k, k ≤ l.length → valN (shC l l.length k) = sig (valN l / 2 ^ (l.length - k))
  | 0, _ => by
    rw [Nat.sub_zero, Nat.div_eq_of_lt (val_lt l)]
    show valN (List.replicate l.length 0) = 0
    apply Nat.eq_of_testBit_eq
    intro i
    rw [valN_bit]
    have : (List.replicate l.length 0).getD i 0 = 0 := by
      simp only [List.getD_eq_getElem?_getD, List.getElem?_replicate]
      split <;> rfl
    rw [this]
    simp
  | k + 1, hk => by
    have ih := shC_val h2 k (by omega)
    have hv := val_lt l
    have hd : valN l / 2 ^ (l.length - k) < 2 ^ k := by
      rw [Nat.div_lt_iff_lt_mul (Nat.two_pow_pos _), ← Nat.pow_add, show k + (l.length - k) = l.length by omega]
      exact hv
    have hs : valN (shC l l.length k) < 2 ^ k := by rw [ih]; exact sig_lt hd
    have hp : (2:Nat) ^ (k + 1) ≤ 2 ^ l.length := Nat.pow_le_pow_right (by decide) hk
    have hp2 : (2:Nat) ^ (k + 1) = 2 ^ k + 2 ^ k := by rw [Nat.pow_succ]; omega
    have hb := getD_lt (M := 2) h2 (by decide) (l.length - 1 - k)
    rw [shC, hornC_val (shC_two l _ k) hb (by omega) (by omega) (by omega), ih]
    have e : l.length - (k + 1) = l.length - 1 - k := by omega
    have e2 : l.length - k = l.length - 1 - k + 1 := by omega
    rw [e, e2]
    have hst := div_step (valN l) (l.length - 1 - k)
    have hbit : valN l / 2 ^ (l.length - 1 - k) % 2 = l.getD (l.length - 1 - k) 0 := by
      have h5 := valN_bit l (l.length - 1 - k)
      rw [Nat.testBit_eq_decide_div_mod_eq] at h5
      have h6 : valN l / 2 ^ (l.length - 1 - k) % 2 < 2 := Nat.mod_lt _ (by decide)
      by_cases h7 : l.getD (l.length - 1 - k) 0 = 1
      · rw [h7] at h5 ⊢; simpa using h5
      · have h8 : l.getD (l.length - 1 - k) 0 = 0 := by omega
        rw [h8] at h5 ⊢
        have : ¬ valN l / 2 ^ (l.length - 1 - k) % 2 = 1 := by simpa using h5
        omega
    rw [hbit] at hst
    conv => rhs; rw [hst]
    rw [sig_xor, sig_two, sig_bit hb]

set_option maxRecDepth 100000 in
set_option maxHeartbeats 4000000 in
theorem shifted_any (g n c : Nat) (l : List Nat) (w : World) (hn : l.length = n) (hb : Box w g 3 (iC l)) (h2 : ∀ x ∈ l, x < 2) (hl : n ≤ 1000) (hl1 : 1 ≤ n) :
    Calls Try.prog 52 #[.slice (some ⟨g, 0, none⟩) n c] w fun e w' => ∃ g', e = .returned (.slice (some ⟨g', 0, none⟩) n n) ∧ Box w' g' 3 (iC (shC l n n)) ∧ Below w.heap.size w w' := by
  have HB0 := Lib.hid hb
  have HL := Lib.hid hn
  have H2 := Lib.hid h2
  have hmk := make_ic n (by omega) w
  have hn1 : (1 : Int) ≤ (n : Int) := by omega
  clear hb hn h2
  go_enter Try.func52, Try.ntmps52
  go_wp2_with fail
  clear hmk
  go_loopw [3, 4] (fun ov i wr => ∃ (k go : Nat), k ≤ n ∧ i = .int .i64 ((n : Int) - 1 - (k : Int)) ∧ ov = .slice (some ⟨go, 0, none⟩) n n ∧ Hid (Box wr go 3 (iC (shC l n k))) ∧ Hid (Below w.heap.size w wr)) (fun _ i _ => (intOf i + 1).toNat)
  case atStart => exact ⟨0, w.heap.size, by omega, by simp, rfl, Lib.hid (Box.new w _ _), Lib.hid ((Below.refl _ w).alloc (Nat.le_refl _) _)⟩
  case round =>
    obtain ⟨k, go, hk, rfl, rfl, HX1, HB1⟩ := hrel
    have HX := HX1
    have HB := HB1
    clear HX1 HB1
    by_cases hlt : k < n
    · obtain ⟨i, hi⟩ : ∃ i, n - 1 - k = i := ⟨_, rfl⟩
      have hii : (n : Int) - 1 - (k : Int) = (i : Int) := by omega
      have hin : i < n := by omega
      have hmk := make_ic n (by omega) wr
      have HS := Lib.hid (show shC l n (k + 1) = hornC (shC l n k) n (l.getD i 0) by rw [shC, hi])
      have HLT := Lib.hid (show ∀ j, (shC l n k).getD j 0 < 2 from fun j => getD_lt (M := 2) (shC_two l n k) (by decide) j)
      have HSL := Lib.hid (shC_len l n k)
      obtain ⟨out, ho⟩ : ∃ o, shC l n k = o := ⟨_, rfl⟩
      rw [ho] at HX HS HLT HSL
      clear ho
      rw [hii]
      obtain ⟨wo, rfl⟩ : ∃ wo : World, wo = wr := ⟨_, rfl⟩
      go_wp2_with fail
      clear hmk
      go_loopw [6] (fun q wx => ∃ m : Nat, q = .int .i64 m ∧ m ≤ n ∧ Hid (Box wx wo.heap.size 3 (iC (stepC out n m))) ∧ Hid (Below wo.heap.size wo wx)) (fun q _ => n - (intOf q).toNat)
      case atStart => exact ⟨0, rfl, by omega, Lib.hid (by rw [← stepC_zero]; exact Box.new wo _ _), Lib.hid ((Below.refl _ wo).alloc (Nat.le_refl _) _)⟩
      case round =>
        obtain ⟨m, rfl, hm, HY1, HZ1⟩ := hrel
        have HY := HY1
        have HZ := HZ1
        clear HY1 HZ1
        by_cases hmn : m < n
        · have ho1 := HX.out.below HZ.out HX.out.lt
          have hone : go ≠ wo.heap.size := by have := HX.out.lt; omega
          have hmn' : (m : Int) < (n : Int) := by omega
          have hcm := ho1.cell m
          rw [iC_at _ _ (by rw [HSL.out]; exact hmn)] at hcm
          have hcx := HY.out.cell m
          rw [iC_at _ _ (by rw [stepC_len]; exact hmn)] at hcx
          have hfx := HY.out.free m
          have hst := stepC_set out n m
          by_cases hm0 : m = 0
          · subst hm0
            rw [if_pos rfl] at hst
            have HST := Lib.hid hst
            obtain ⟨a, ha⟩ : ∃ a, out.getD 0 0 = a := ⟨_, rfl⟩
            rw [ha] at hcm HST
            clear hst ha
            go_wp2_with fail
            clear hcm hcx hfx
            go_roundw
            case rel =>
              refine ⟨0 + 1, by go_num, by omega, Lib.hid ?_, Lib.hid (HZ.out.setCell (p := ⟨wo.heap.size, 0, none⟩) (Nat.le_refl _) _)⟩
              have h1 := iC_put HY.out 0 a _ rfl
              rw [HST.out] at h1
              exact h1
            case measure => simp [intOf]; omega
          · rw [if_neg hm0] at hst
            have hcf := ho1.cell (m - 1)
            rw [iC_at _ _ (by rw [HSL.out]; omega)] at hcf
            have ha2 := HLT.out m
            have hb2 := HLT.out (m - 1)
            obtain ⟨a, ha⟩ : ∃ a, out.getD m 0 = a := ⟨_, rfl⟩
            obtain ⟨b, hbb⟩ : ∃ b, out.getD (m - 1) 0 = b := ⟨_, rfl⟩
            rw [ha] at hcm hst ha2
            rw [hbb] at hcf hst hb2
            have HST := Lib.hid hst
            have hm1 : (0 : Int) < (m : Int) := by omega
            have hwm : IntKind.i64.wrap ((m : Int) - 1) = ((m - 1 : Nat) : Int) := by rw [IntWalk.i64_in _ (by omega)]; omega
            have hwm2 : (m : Int) - 1 = ((m - 1 : Nat) : Int) := by omega
            have hml : ((m - 1 : Nat) : Int) < (n : Int) := by omega
            have hmg : (0 : Int) ≤ ((m - 1 : Nat) : Int) := by omega
            have hwa : IntKind.i64.wrap ((a : Int) + (b : Int)) = (a : Int) + (b : Int) := IntWalk.i64_in _ (by omega)
            clear hst ha hbb
            go_upto_region 11 with fail
            obtain ⟨w5, hw5⟩ : ∃ w5, wr.setCell ⟨wo.heap.size, m, none⟩ (.int .i64 ((a : Nat) : Int)) = w5 := ⟨_, rfl⟩
            have hX5 : Box w5 wo.heap.size 3 (iC ((stepC out n m).set m a)) := by rw [← hw5]; exact iC_put HY.out m a _ rfl
            have ho5 : Box w5 go 3 (iC out) := by rw [← hw5]; exact ho1.far (p := ⟨wo.heap.size, m, none⟩) hone _
            have hcm5 := ho5.cell m
            have hcf5 := ho5.cell (m - 1)
            have hcx5 := hX5.cell m
            have hfx5 := hX5.free m
            have e1 : wr.cell? ⟨go, m, none⟩ = w5.cell? ⟨go, m, none⟩ := (ho1.cell m).trans hcm5.symm
            have e2 : wr.cell? ⟨go, m - 1, none⟩ = w5.cell? ⟨go, m - 1, none⟩ := (ho1.cell (m - 1)).trans hcf5.symm
            rw [e1] at hcm
            rw [e2] at hcf
            rw [iC_at _ _ (by rw [List.length_set, stepC_len]; exact hmn)] at hcx5
            have HX5 := Lib.hid hX5
            have HZ5 := Lib.hid (show Below wo.heap.size wo w5 by rw [← hw5]; exact HZ.out.setCell (p := ⟨wo.heap.size, m, none⟩) (Nat.le_refl _) _)
            rw [hw5]
            clear hw5 hX5 ho5 hcm5 hcf5 e1 e2 hcx hfx ho1
            go_region
            clear hcm hcf hcx5 hfx5
            go_wp2_with fail
            go_roundw
            case rel =>
              refine ⟨m + 1, by go_num, by omega, Lib.hid ?_, Lib.hid (below_drewN (HZ5.out.setCell (p := ⟨wo.heap.size, m, none⟩) (Nat.le_refl _) _) 1)⟩
              have h1 := (iC_put HX5.out m ((a + b) % 2) (((a : Int) + (b : Int)) % 2) (by omega)).drewN 1
              rw [set_two, HST.out] at h1
              exact h1
            case measure => simp [intOf]; omega
        · obtain rfl : m = n := by omega
          have hc0 := HY.out.cell 0
          rw [iC_at _ _ (by rw [stepC_len]; omega)] at hc0
          have hf0 := HY.out.free 0
          have hg1 := HB0.out.below (HB.out.trans (HZ.out.mono HB.out.size)) HB0.out.lt
          have hci := hg1.cell i
          rw [iC_at _ _ (by rw [HL.out]; exact hin)] at hci
          have hb2 : l.getD i 0 < 2 := getD_lt (M := 2) H2.out (by decide) i
          have ha2 : (stepC out m m).getD 0 0 < 2 := by
            rw [stepC_at _ _ _ _ (by omega), if_pos (by omega), if_pos rfl]
            exact HLT.out 0
          obtain ⟨a, ha⟩ : ∃ a, (stepC out m m).getD 0 0 = a := ⟨_, rfl⟩
          obtain ⟨b, hbb⟩ : ∃ b, l.getD i 0 = b := ⟨_, rfl⟩
          rw [hbb] at HS hci hb2
          have HH := Lib.hid (show shC l m (k + 1) = (stepC out m m).set 0 ((a + b) % 2) by rw [HS.out, hornC, ha])
          rw [ha] at hc0 ha2
          have hm0 : (0 : Int) < (m : Int) := by omega
          have hm0n : 0 < m := by omega
          have hin' : (i : Int) < (m : Int) := by omega
          have hi0 : (0 : Int) ≤ (i : Int) := by omega
          have hwa : IntKind.i64.wrap ((a : Int) + (b : Int)) = (a : Int) + (b : Int) := IntWalk.i64_in _ (by omega)
          clear hg1 ha hbb HS
          go_wp2_with fail
          go_region
          clear hc0 hf0 hci
          go_wp2_with fail
          go_roundw
          case rel =>
            refine ⟨k + 1, wo.heap.size, by omega, val_int (by omega), rfl, Lib.hid ?_, Lib.hid (below_drewN ((HB.out.trans (HZ.out.mono HB.out.size)).setCell (p := ⟨wo.heap.size, 0, none⟩) HB.out.size _) 1)⟩
            have h1 := (iC_put HY.out 0 ((a + b) % 2) (((a : Int) + (b : Int)) % 2) (by omega)).drewN 1
            rw [← HH.out] at h1
            exact h1
          case measure => simp [intOf]
    · obtain rfl : k = n := by omega
      have hge : (k : Int) - 1 - (k : Int) = -1 := by omega
      rw [hge]
      go_wp2_with fail
      go_ret
      exact ⟨go, rfl, HX.out, HB.out⟩
end Go.Proofs.Ytpdgjjpfahobaaa
