/- The reference's functions begun and Chains: for numbers from 1 to 8 they return the number of chains that 'chn' and 'chains' compute. -/
import Derived.Test.YtkkholagmjcgiaaChains
namespace Go.Proofs.Ytkkholagmjcgiaa
open Go.RowKit

theorem div_self1 {n : Nat} (h : 1 ≤ n) : n / n = 1 := Nat.div_self (by omega)

set_option maxHeartbeats 1000000 in
theorem begun_nat (k : Nat) : ∀ (a b : Int) (w : World), 1 ≤ a → a ≤ 8 → 1 ≤ b → b ≤ 8 → ¬ (a = 1 ∧ b = 1) → a.toNat + b.toNat ≤ k →
    Calls Try.prog 77 #[.int .i64 a, .int .i64 b] w fun e w' => e = .returned (.int .i64 (chn a.toNat b.toNat)) ∧ w = w' := by
  induction k with
  | zero => intro a b w h1 _ h2 _ _ h3; omega
  | succ k ih =>
    intro a b w hn1 hn8 hm1 hm8 h11 hk
    obtain ⟨n, rfl⟩ := Int.eq_ofNat_of_zero_le (show 0 ≤ a by omega)
    obtain ⟨m, rfl⟩ := Int.eq_ofNat_of_zero_le (show 0 ≤ b by omega)
    simp only [Int.toNat_natCast] at hk ⊢
    have h11' : ¬ (n = 1 ∧ m = 1) := by omega
    have HS := Lib.hid (chn_step n (by omega) m (by omega) ⟨by omega, by omega, h11'⟩)
    have IH := Lib.hid ih
    clear ih h11 h11'
    go_enter Try.func77, Try.ntmps77
    go_wp2_with fail
    go_loop [5, 6] (fun s f => ∃ j : Nat, 2 ≤ j ∧ j ≤ n + 1 ∧ f = .int .i64 j ∧ s = .int .i64 (chp n m j)) (fun _ f => n + 1 - (intOf f).toNat)
    case atStart => exact ⟨2, by omega, by omega, rfl, by rw [chp_two]; rfl⟩
    case round =>
      obtain ⟨j, hj2, hjn, rfl, rfl⟩ := hrel
      have hlt := chp_lt n (by omega) m (by omega) j (by omega)
      by_cases hj : j ≤ n
      · have hq : n / j < n := Nat.div_lt_self (by omega) (by omega)
        have hq1 : 1 ≤ n / j := (Nat.le_div_iff_mul_le (by omega)).2 (by omega)
        have hcl := chn_lt m (by omega) (n / j) (by omega)
        have HP := Lib.hid (chp_succ n m j)
        have e1 : ((n : Int) / (j : Int)).toNat = n / j := by omega
        have E1 := Lib.hid e1
        have q1 : 1 ≤ (n : Int) / (j : Int) := by omega
        have q2 : (n : Int) / (j : Int) ≤ 8 := by omega
        clear e1
        by_cases hdv : n % j = 0
        · have hm0 : ((n : Int) % (j : Int) != 0) = false := by simp; omega
          have HD := Lib.hid hdv
          by_cases hjq : n = j
          · have b1 : ((n : Int) == (j : Int)) = true := by rw [beq_iff_eq]; omega
            have HQ1 := Lib.hid (show n / j = 1 by rw [hjq]; exact div_self1 (by omega))
            by_cases hm11 : m = 1
            · have b2 : ((m : Int) == 1) = true := by rw [beq_iff_eq]; omega
              have HC := Lib.hid (show chn m (n / j) = 1 by rw [hm11, HQ1.out]; exact chn_one)
              clear hdv hcl hjq hm11
              go_wp2_with fail
              go_round
              case rel => exact ⟨j + 1, by omega, by omega, by go_num, by rw [HP.out, if_pos ⟨hj2, HD.out⟩, HC.out]; go_num⟩
              case measure => simp [intOf]; omega
            · have b2 : ((m : Int) == 1) = false := by rw [beq_eq_false_iff_ne]; omega
              have HM := Lib.hid hm11
              clear hdv hjq hm11
              go_wp2_with fail
              refine (IH.out _ _ _ (by omega) (by omega) q1 q2 (fun h => HM.out (by omega)) (by rw [E1.out]; omega)).mono ?_
              rintro e w' ⟨rfl, rfl⟩
              rw [E1.out]
              go_wp2_with fail
              go_round
              case rel => exact ⟨j + 1, by omega, by omega, by go_num, by rw [HP.out, if_pos ⟨hj2, HD.out⟩]; go_num⟩
              case measure => simp [intOf]; omega
          · have b1 : ((n : Int) == (j : Int)) = false := by rw [beq_eq_false_iff_ne]; omega
            have hq2 : 2 ≤ n / j := by
              rcases Nat.lt_or_ge (n / j) 2 with h | h
              · have h1 : n / j = 1 := by omega
                have h2 := Nat.div_add_mod n j
                rw [h1, hdv] at h2
                omega
              · exact h
            have q3 : 2 ≤ (n : Int) / (j : Int) := by omega
            clear hdv hjq
            go_wp2_with fail
            refine (IH.out _ _ _ (by omega) (by omega) q1 q2 (by omega) (by rw [E1.out]; omega)).mono ?_
            rintro e w' ⟨rfl, rfl⟩
            rw [E1.out]
            go_wp2_with fail
            go_round
            case rel => exact ⟨j + 1, by omega, by omega, by go_num, by rw [HP.out, if_pos ⟨hj2, HD.out⟩]; go_num⟩
            case measure => simp [intOf]; omega
        · have hm0 : ((n : Int) % (j : Int) != 0) = true := by simp; omega
          have HD := Lib.hid hdv
          clear hdv
          go_wp2_with fail
          go_round
          case rel => exact ⟨j + 1, by omega, by omega, by go_num, by rw [HP.out, if_neg (fun h => HD.out h.2)]; rfl⟩
          case measure => simp [intOf]; omega
      · obtain rfl : j = n + 1 := by omega
        go_wp2_with fail
        go_ret
        exact ⟨ret_int (by rw [HS.out]), rfl⟩

set_option maxHeartbeats 1000000 in
theorem RChains_ok (n m : Nat) (hn1 : 1 ≤ n) (hn8 : n ≤ 8) (hm1 : 1 ≤ m) (hm8 : m ≤ 8) (w : World) :
    Calls Try.prog 51 #[.int .i64 n, .int .i64 m] w fun e w' => e = .returned (.int .i64 (chains n m)) ∧ w = w' := by
  by_cases h11 : n = 1 ∧ m = 1
  · have HC := Lib.hid (show chains n m = 1 by unfold chains; rw [if_pos h11])
    obtain ⟨rfl, rfl⟩ := h11
    go_enter Try.func51, Try.ntmps51
    go_wp2_with fail
    go_ret
    exact ⟨ret_int (by rw [HC.out]; rfl), rfl⟩
  · have HC := Lib.hid (show chains n m = chn n m + chn m n by unfold chains; rw [if_neg h11])
    have hl1 := chn_lt n (by omega) m (by omega)
    have hl2 := chn_lt m (by omega) n (by omega)
    have H1 := Lib.hid (begun_nat 16 n m w (by omega) (by omega) (by omega) (by omega) (by omega) (by omega))
    have H2 := Lib.hid (begun_nat 16 m n w (by omega) (by omega) (by omega) (by omega) (by omega) (by omega))
    have h12 : n = 1 → m ≠ 1 := fun h h' => h11 ⟨h, h'⟩
    clear h11
    by_cases hn : n = 1
    · have b1 : ((n : Int) == 1) = true := by rw [beq_iff_eq]; omega
      have b2 : ((m : Int) == 1) = false := by have := h12 hn; rw [beq_eq_false_iff_ne]; omega
      clear h12 hn
      go_enter Try.func51, Try.ntmps51
      go_wp2_with fail
      refine H1.out.mono ?_
      rintro e w' ⟨rfl, rfl⟩
      simp only [Int.toNat_natCast]
      go_wp2_with fail
      refine H2.out.mono ?_
      rintro e w' ⟨rfl, rfl⟩
      simp only [Int.toNat_natCast]
      go_wp2_with fail
      go_ret
      exact ⟨ret_int (by rw [HC.out]; go_num), rfl⟩
    · have b1 : ((n : Int) == 1) = false := by rw [beq_eq_false_iff_ne]; omega
      clear h12 hn
      go_enter Try.func51, Try.ntmps51
      go_wp2_with fail
      refine H1.out.mono ?_
      rintro e w' ⟨rfl, rfl⟩
      simp only [Int.toNat_natCast]
      go_wp2_with fail
      refine H2.out.mono ?_
      rintro e w' ⟨rfl, rfl⟩
      simp only [Int.toNat_natCast]
      go_wp2_with fail
      go_ret
      exact ⟨ret_int (by rw [HC.out]; go_num), rfl⟩

end Go.Proofs.Ytkkholagmjcgiaa
