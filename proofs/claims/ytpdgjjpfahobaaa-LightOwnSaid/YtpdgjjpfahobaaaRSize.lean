/- The reference's Size and IsRefutation: the number of lamps of a set; whether a set refutes a target. -/
import Derived.Test.YtpdgjjpfahobaaaRef4
import Derived.Test.YtpdgjjpfahobaaaNear
namespace Go.Proofs.Ytpdgjjpfahobaaa
open Go.RowKit Lamp

/-- A table of n sets in memory, read. -/
theorem REffect_box {w : World} {g n c : Nat} {s : List Nat} (hb : Box w g 3 (iC s)) (hn : s.length = n) (hn16 : n ≤ 16) (hs : ∀ x ∈ s, x < 65536) (hc : c < 65536) {v : Nat} (hv : comb c s = v) :
    Calls Try.prog 34 #[.slice (some ⟨g, 0, none⟩) n n, .int .i64 c] w fun e w' => e = .returned (.int .i64 (v : Int)) ∧ w = w' := by
  subst hv
  exact REffect_any _ c s n n w.heap.size w hn.symm (box_reads hb) (by omega) (by omega) (fun x hx => by have := hs x hx; omega)

theorem popK_stop {x k : Nat} (h : x / 2 ^ k = 0) : ∀ j, k ≤ j → popK x j = popK x k
  | 0, hj => by obtain rfl : k = 0 := by omega
                rfl
  | j + 1, hj => by
    by_cases e : k = j + 1
    · rw [e]
    · rw [popK, popK_stop h j (by omega)]
      have h1 : x < 2 ^ k := by
        have := Nat.lt_mul_div_succ x (Nat.two_pow_pos k)
        rw [h] at this
        simpa using this
      rw [Nat.div_eq_of_lt (Nat.lt_of_lt_of_le h1 (Nat.pow_le_pow_right (by decide) (by omega)))]
      simp
set_option maxRecDepth 100000 in
theorem RSize_any (x : Nat) (w : World) (hx : x < 65536) :
    Calls Try.prog 49 #[.int .i64 x] w fun e w' => e = .returned (.int .i64 ((popc x : Nat) : Int)) ∧ w = w' := by
  have hx' : (x : Int) < 65536 := by omega
  go_enter Try.func49, Try.ntmps49
  go_wp2_with fail
  go_loop [3, 4] (fun t i => ∃ k : Nat, i = .int .i64 k ∧ k ≤ 16 ∧ t = .int .i64 ((popK x k : Nat) : Int)) (fun _ i => 16 - (intOf i).toNat)
  case atStart => exact ⟨0, rfl, by omega, rfl⟩
  case round =>
    obtain ⟨k, rfl, hk, rfl⟩ := hrel
    obtain ⟨d, hd⟩ : ∃ d, x / 2 ^ k = d := ⟨_, rfl⟩
    have hdi : (x : Int) / 2 ^ k = (d : Int) := by rw [← hd]; simp
    have HD := Lib.hid hd
    have hp := popK_le x k
    have HP := Lib.hid (show popK x (k + 1) = popK x k + d % 2 by rw [popK, hd])
    have HS := Lib.hid (fun h0 : d = 0 => popK_stop (x := x) (k := k) (by rw [hd]; exact h0) 16 hk)
    have HK := Lib.hid (show d ≠ 0 → k < 16 from fun h0 => by
      apply Decidable.byContradiction
      intro hc
      obtain rfl : k = 16 := by omega
      exact h0 (by rw [← hd]; exact Nat.div_eq_of_lt hx))
    obtain ⟨t, ht⟩ : ∃ t, popK x k = t := ⟨_, rfl⟩
    rw [ht] at hp HP HS ⊢
    clear hd ht hx hx'
    by_cases h0 : d = 0
    · have HE := Lib.hid (HS.out h0)
      have hd0 : ¬ (0 : Int) < (d : Int) := by omega
      clear h0
      go_wp2
      go_ret
      exact ⟨ret_int (by show _ = ((popK x 16 : Nat) : Int); rw [HE.out]), rfl⟩
    · have hd0 : (0 : Int) < (d : Int) := by omega
      have hk16 := HK.out h0
      go_wp2
      go_round
      case rel => exact ⟨k + 1, by go_num, by omega, val_int (by rw [HP.out]; omega)⟩
      case measure => simp [intOf]; omega
theorem RSize_of {x : Nat} (a : Int) (w : World) (ha : a = (x : Int)) (hx : x < 65536) {v : Nat} (hv : popc x = v) :
    Calls Try.prog 49 #[.int .i64 a] w fun e w' => e = .returned (.int .i64 (v : Int)) ∧ w = w' := by
  subst ha hv; exact RSize_any x w hx

theorem RIsRef_any {w : World} {g n t q : Nat} {s : List Nat} (hb : Box w g 3 (iC s)) (hn : s.length = n) (hn16 : n ≤ 16) (hs : ∀ x ∈ s, x < 65536) (ht : t < 65536) (hq : q < 65536) {b : Bool} (hv : (decide (comb q s = 0) && oddB (t &&& q)) = b) :
    Calls Try.prog 39 #[.slice (some ⟨g, 0, none⟩) n n, .int .i64 t, .int .i64 q] w fun e w' => e = .returned (.bool b) ∧ w = w' := by
  have HB := Lib.hid hb
  have HS := Lib.hid hs
  have HA := Lib.hid (i64_and t q (by omega) (by omega))
  have hal : t &&& q < 65536 := Nat.lt_of_le_of_lt Nat.and_le_left ht
  have HV := Lib.hid hv
  obtain ⟨v, hcv⟩ : ∃ v, comb q s = v := ⟨_, rfl⟩
  have HCV := Lib.hid hcv
  rw [hcv] at HV
  unfold oddB at HV
  obtain ⟨c, hc⟩ : ∃ c, popc (t &&& q) = c := ⟨_, rfl⟩
  have HC := Lib.hid hc
  rw [hc] at HV
  clear hb hs hv hcv hc
  go_enter Try.func39, Try.ntmps39
  by_cases h0 : v = 0
  · subst h0
    go_wp2_with (first
      | (go_at_call 34; refine (REffect_box HB.out hn hn16 HS.out hq HCV.out).mono ?_; rintro e w' ⟨rfl, rfl⟩)
      | (go_at_call 49; refine (RSize_of _ _ HA.out hal HC.out).mono ?_; rintro e w' ⟨rfl, rfl⟩))
    go_ret
    refine ⟨ret_bool ?_, rfl⟩
    rw [← HV.out]
    have : c % 2 = 0 ∨ c % 2 = 1 := by omega
    have e2 : (c : Int) % 2 = ((c % 2 : Nat) : Int) := by omega
    rcases this with h | h <;> simp [h, e2]
  · have h1 : ((v : Int) == 0) = false := by rw [beq_eq_false_iff_ne]; omega
    go_wp2_with (first
      | (go_at_call 34; refine (REffect_box HB.out hn hn16 HS.out hq HCV.out).mono ?_; rintro e w' ⟨rfl, rfl⟩))
    go_ret
    refine ⟨ret_bool ?_, rfl⟩
    rw [← HV.out]
    simp [h0]
end Go.Proofs.Ytpdgjjpfahobaaa
