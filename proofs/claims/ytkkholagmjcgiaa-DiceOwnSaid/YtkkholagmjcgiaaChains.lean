/- The functions isSize, chainsFrom and Chains of package dice: for numbers from 1 to 8 they return the number of chains that 'chn' computes; Chains returns ErrArg outside. -/
import Derived.Test.YtkkholagmjcgiaaMem
namespace Go.Proofs.Ytkkholagmjcgiaa
open Go.RowKit

def chF : Nat → Nat → Nat → Nat
  | 0, _, _ => 0
  | k + 1, n, m => if n = 1 ∧ m = 1 then 1 else ((List.range (n + 1)).map fun j => if 2 ≤ j ∧ n % j = 0 then chF k m (n / j) else 0).sum
/-- The number of chains that begin with a factor of n. -/
def chn (n m : Nat) : Nat := chF 8 n m
/-- The part of that sum for factors below f. -/
def chp (n m f : Nat) : Nat := ((List.range f).map fun j => if 2 ≤ j ∧ n % j = 0 then chn m (n / j) else 0).sum

theorem chp_two (n m : Nat) : chp n m 2 = 0 := by simp [chp, List.range_succ]
theorem chp_succ (n m f : Nat) : chp n m (f + 1) = chp n m f + if 2 ≤ f ∧ n % f = 0 then chn m (n / f) else 0 := by
  simp [chp, List.range_succ]
theorem chn_step : ∀ n < 9, ∀ m < 9, (1 ≤ n ∧ 1 ≤ m ∧ ¬ (n = 1 ∧ m = 1)) → chp n m (n + 1) = chn n m := by decide +kernel
theorem chn_lt : ∀ n < 9, ∀ m < 9, chn n m < 1000 := by decide +kernel
theorem chp_lt : ∀ n < 9, ∀ m < 9, ∀ f < 10, chp n m f < 1000 := by decide +kernel
theorem chn_one : chn 1 1 = 1 := by decide +kernel

set_option maxHeartbeats 400000 in
theorem chainsFrom_one (w : World) :
    Calls Try.prog 76 #[.int .i64 1, .int .i64 1] w fun e w' => e = .returned (.int .i64 1) ∧ w = w' := by
  go_enter Try.func76, Try.ntmps76
  go_wp2
  go_ret
  exact ⟨rfl, rfl⟩

theorem chn_n1 : ∀ m < 9, 2 ≤ m → chn 1 m = 0 := by decide +kernel
set_option maxHeartbeats 400000 in
theorem chainsFrom_n1 (m : Int) (hm : 2 ≤ m) (w : World) :
    Calls Try.prog 76 #[.int .i64 1, .int .i64 m] w fun e w' => e = .returned (.int .i64 0) ∧ w = w' := by
  have hd : (m == 1) = false := by rw [beq_eq_false_iff_ne]; omega
  go_enter Try.func76, Try.ntmps76
  go_wp2_with fail
  go_rounds 1
  go_wp2_with fail
  go_ret
  exact ⟨rfl, rfl⟩

set_option maxHeartbeats 400000 in
theorem chainsFrom_nat (k : Nat) : ∀ (a b : Int) (w : World), 1 ≤ a → a ≤ 8 → 1 ≤ b → b ≤ 8 → a.toNat + b.toNat ≤ k →
    Calls Try.prog 76 #[.int .i64 a, .int .i64 b] w fun e w' => e = .returned (.int .i64 (chn a.toNat b.toNat)) ∧ w = w' := by
  induction k with
  | zero => intro n m w h1 _ h2 _ h3; omega
  | succ k ih =>
    intro a b w hn1 hn8 hm1 hm8 hk
    obtain ⟨n, rfl⟩ := Int.eq_ofNat_of_zero_le (show 0 ≤ a by omega)
    obtain ⟨m, rfl⟩ := Int.eq_ofNat_of_zero_le (show 0 ≤ b by omega)
    simp only [Int.toNat_natCast] at hk ⊢
    by_cases h11 : n = 1 ∧ m = 1
    · obtain ⟨rfl, rfl⟩ := h11
      rw [chn_one]
      exact chainsFrom_one w
    · have HS := Lib.hid (chn_step n (by omega) m (by omega) ⟨by omega, by omega, h11⟩)
      have IH := Lib.hid ih
      clear ih
      have h12 : n = 1 → m ≠ 1 := fun h h' => h11 ⟨h, h'⟩
      clear h11
      by_cases hb : n = 1
      · subst hb
        rw [chn_n1 m (by omega) (by omega)]
        exact chainsFrom_n1 m (by omega) w
      · have hc : ((n : Int) == 1) = false := by rw [beq_eq_false_iff_ne]; omega
        have hb2 : 2 ≤ n := by omega
        clear h12 hb
        go_enter Try.func76, Try.ntmps76
        go_wp2_with fail
        go_loop [5, 6] (fun s f => ∃ j : Nat, 2 ≤ j ∧ j ≤ n + 1 ∧ f = .int .i64 j ∧ s = .int .i64 (chp n m j)) (fun _ f => n + 1 - (intOf f).toNat)
        case atStart => exact ⟨2, by omega, by omega, rfl, by rw [chp_two]; rfl⟩
        case round =>
          obtain ⟨j, hj2, hjn, rfl, rfl⟩ := hrel
          have hlt := chp_lt n (by omega) m (by omega) j (by omega)
          by_cases hj : j ≤ n
          · have hq : n / j < n := Nat.div_lt_self (by omega) (by omega)
            have hq1 : 1 ≤ n / j := (Nat.le_div_iff_mul_le (by omega)).2 (by omega)
            have hcl := chn_lt m (by omega) (n / j) (by omega)
            have HP := Lib.hid (chp_succ n m j)
            have e1 : ((n : Int) / (j : Int)).toNat = n / j := by omega
            have E1 := Lib.hid e1
            have q1 : 1 ≤ (n : Int) / (j : Int) := by omega
            have q2 : (n : Int) / (j : Int) ≤ 8 := by omega
            clear e1
            by_cases hdv : n % j = 0
            · have hm0 : ((n : Int) % (j : Int) == 0) = true := by rw [beq_iff_eq]; omega
              have HD := Lib.hid hdv
              clear hdv
              go_wp2_with fail
              refine (IH.out _ _ _ (by omega) (by omega) q1 q2 (by rw [E1.out]; omega)).mono ?_
              rintro e w' ⟨rfl, rfl⟩
              rw [E1.out]
              go_wp2_with fail
              go_round
              case rel => exact ⟨j + 1, by omega, by omega, by go_num, by rw [HP.out, if_pos ⟨hj2, HD.out⟩]; go_num⟩
              case measure => simp [intOf]; omega
            · have hm0 : ((n : Int) % (j : Int) == 0) = false := by rw [beq_eq_false_iff_ne]; omega
              have HD := Lib.hid hdv
              clear hdv
              go_wp2_with fail
              go_round
              case rel => exact ⟨j + 1, by omega, by omega, by go_num, by rw [HP.out, if_neg (fun h => HD.out h.2)]; rfl⟩
              case measure => simp [intOf]; omega
          · obtain rfl : j = n + 1 := by omega
            go_wp2_with fail
            go_ret
            exact ⟨ret_int (by rw [HS.out]), rfl⟩


theorem isSize_yes (n : Int) (h1 : 1 ≤ n) (h2 : n ≤ 8) (w : World) :
    Calls Try.prog 75 #[.int .i64 n] w fun e w' => e = .returned (.bool true) ∧ w = w' := by
  go_enter Try.func75, Try.ntmps75
  go_wp2
  go_ret
  exact ⟨rfl, rfl⟩

theorem isSize_no (n : Int) (h1 : n < 1 ∨ 8 < n) (w : World) :
    Calls Try.prog 75 #[.int .i64 n] w fun e w' => e = .returned (.bool false) ∧ w = w' := by
  rcases h1 with h1 | h1
  · go_enter Try.func75, Try.ntmps75
    go_wp2
    go_ret
    exact ⟨rfl, rfl⟩
  · have h2 : 1 ≤ n := by omega
    have h3 : decide (n ≤ 8) = false := by simp; omega
    go_enter Try.func75, Try.ntmps75
    go_wp2
    go_ret
    exact ⟨rfl, rfl⟩

/-- The number of chains for two numbers. -/
def chains (n m : Nat) : Nat := if n = 1 ∧ m = 1 then 1 else chn n m + chn m n

theorem Chains_bad (n m : Int) (h : n < 1 ∨ 8 < n ∨ m < 1 ∨ 8 < m) (w : World) :
    Calls Try.prog 49 #[.int .i64 n, .int .i64 m] w fun e w' => e = .returned (.tuple #[.int .i64 0, .int .i64 1]) ∧ w = w' := by
  by_cases hn : n < 1 ∨ 8 < n
  · have H := Lib.hid hn
    clear hn h
    go_enter Try.func49, Try.ntmps49
    go_wp2_with fail
    refine (isSize_no n H.out _).mono ?_
    rintro e w' ⟨rfl, rfl⟩
    go_wp2_with fail
    go_ret2
    exact ⟨rfl, rfl⟩
  · have h1 : 1 ≤ n := by omega
    have h2 : n ≤ 8 := by omega
    have H := Lib.hid (show m < 1 ∨ 8 < m by omega)
    clear hn h
    go_enter Try.func49, Try.ntmps49
    go_wp2_with fail
    refine (isSize_yes n h1 h2 _).mono ?_
    rintro e w' ⟨rfl, rfl⟩
    go_wp2_with fail
    refine (isSize_no m H.out _).mono ?_
    rintro e w' ⟨rfl, rfl⟩
    go_wp2_with fail
    go_ret2
    exact ⟨rfl, rfl⟩

theorem Chains_one (w : World) :
    Calls Try.prog 49 #[.int .i64 1, .int .i64 1] w fun e w' => e = .returned (.tuple #[.int .i64 1, .int .i64 0]) ∧ w = w' := by
  go_enter Try.func49, Try.ntmps49
  go_wp2_with fail
  refine (isSize_yes 1 (by omega) (by omega) _).mono ?_
  rintro e w' ⟨rfl, rfl⟩
  go_wp2_with fail
  refine (isSize_yes 1 (by omega) (by omega) _).mono ?_
  rintro e w' ⟨rfl, rfl⟩
  go_wp2_with fail
  go_ret2
  exact ⟨rfl, rfl⟩

theorem Chains_ok (n m : Nat) (hn1 : 1 ≤ n) (hn8 : n ≤ 8) (hm1 : 1 ≤ m) (hm8 : m ≤ 8) (w : World) :
    Calls Try.prog 49 #[.int .i64 n, .int .i64 m] w fun e w' => e = .returned (.tuple #[.int .i64 (chains n m), .int .i64 0]) ∧ w = w' := by
  have main : ¬ (n = 1 ∧ m = 1) → Calls Try.prog 49 #[.int .i64 n, .int .i64 m] w fun e w' => e = .returned (.tuple #[.int .i64 ((chn n m : Int) + chn m n), .int .i64 0]) ∧ w = w' := by
    intro h
    have l1 := chn_lt n (by omega) m (by omega)
    have l2 := chn_lt m (by omega) n (by omega)
    by_cases h1 : n = 1
    · have h2 : ((m : Int) == 1) = false := by rw [beq_eq_false_iff_ne]; omega
      subst h1
      clear h
      go_enter Try.func49, Try.ntmps49
      go_wp2_with fail
      refine (isSize_yes _ (by omega) (by omega) _).mono ?_
      rintro e w' ⟨rfl, rfl⟩
      go_wp2_with fail
      refine (isSize_yes m (by omega) (by omega) _).mono ?_
      rintro e w' ⟨rfl, rfl⟩
      go_wp2_with fail
      refine (chainsFrom_nat _ _ _ _ (by omega) (by omega) (by omega) (by omega) (Nat.le_refl _)).mono ?_
      rintro e w' ⟨rfl, rfl⟩
      go_wp2_with fail
      refine (chainsFrom_nat _ _ _ _ (by omega) (by omega) (by omega) (by omega) (Nat.le_refl _)).mono ?_
      rintro e w' ⟨rfl, rfl⟩
      simp only [Int.toNat_natCast, Int.toNat_one]
      go_wp2_with fail
      go_ret2
      exact ⟨rfl, rfl⟩
    · have h2 : ((n : Int) == 1) = false := by rw [beq_eq_false_iff_ne]; omega
      clear h h1
      go_enter Try.func49, Try.ntmps49
      go_wp2_with fail
      refine (isSize_yes _ (by omega) (by omega) _).mono ?_
      rintro e w' ⟨rfl, rfl⟩
      go_wp2_with fail
      refine (isSize_yes m (by omega) (by omega) _).mono ?_
      rintro e w' ⟨rfl, rfl⟩
      go_wp2_with fail
      refine (chainsFrom_nat _ _ _ _ (by omega) (by omega) (by omega) (by omega) (Nat.le_refl _)).mono ?_
      rintro e w' ⟨rfl, rfl⟩
      go_wp2_with fail
      refine (chainsFrom_nat _ _ _ _ (by omega) (by omega) (by omega) (by omega) (Nat.le_refl _)).mono ?_
      rintro e w' ⟨rfl, rfl⟩
      simp only [Int.toNat_natCast]
      go_wp2_with fail
      go_ret2
      exact ⟨rfl, rfl⟩
  by_cases h : n = 1 ∧ m = 1
  · obtain ⟨rfl, rfl⟩ := h
    exact Chains_one w
  · refine (main h).mono ?_
    rintro e w' ⟨rfl, rfl⟩
    exact ⟨by rw [chains, if_neg h]; rfl, rfl⟩

end Go.Proofs.Ytkkholagmjcgiaa
