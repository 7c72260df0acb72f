/- The law's set, the reference's Effect. -/
import Derived.Test.YtpdgjjpfahobaaaTame2
namespace Go.Proofs.Ytpdgjjpfahobaaa
open Go.RowKit Lamp

theorem bit_rem (c k : Nat) (hc : c < 9223372036854775808) : (((c : Int) / 2 ^ min k 64) % 2 == 1) = c.testBit k := by
  rw [← bit_test c k hc]
  have h1 : (c : Int) / 2 ^ min k 64 = ((c / 2 ^ min k 64 : Nat) : Int) := by simp
  have h2 : c / 2 ^ min k 64 < 9223372036854775808 := Nat.lt_of_le_of_lt (Nat.div_le_self _ _) hc
  rw [h1, show (1 : Int) = ((1 : Nat) : Int) from rfl, i64_and _ 1 h2 (by decide), and_one]
  rfl

set_option maxHeartbeats 1000000 in
theorem REffect_any (A : Option Addr) (c : Nat) (s : List Nat) (n cap B : Nat) (w : World) (hn : n = s.length) (hr : RInts w B A (natV s)) (hl : s.length ≤ 1000000) (hc : c < 9223372036854775808) (hs : ∀ x ∈ s, x < 9223372036854775808) :
    Calls Try.prog 34 #[.slice A n cap, .int .i64 c] w fun e w' => e = .returned (.int .i64 ((comb c s : Nat) : Int)) ∧ w = w' := by
  subst hn
  have HR := Lib.hid hr
  have HS := Lib.hid hs
  clear hr hs
  go_enter Try.func34, Try.ntmps34
  go_wp2_with fail
  go_loop [5, 6] (fun t i => ∃ k : Nat, i = .int .i64 k ∧ k ≤ s.length ∧ t = .int .i64 ((combK c s k : Nat) : Int)) (fun _ i => s.length - (intOf i).toNat)
  case atStart => exact ⟨0, rfl, by omega, rfl⟩
  case round =>
    obtain ⟨k, rfl, hk, rfl⟩ := hrel
    by_cases hlt : k < s.length
    · obtain ⟨b, o, x, hA, hb, hx, hcx⟩ := HR.out.at_ (k := k) (by rw [natV_len]; exact hlt)
      subst hA
      obtain ⟨y, rfl, HY⟩ : ∃ y : Nat, x = (y : Int) ∧ Hid (y = s.getD k 0) := ⟨_, (natV_at hx).1, Lib.hid rfl⟩
      clear hx
      go_wp2
      · have ht : (((c : Int) / 2 ^ min k 64) % 2 == 1) = true := by assumption
        rw [bit_rem c k hc] at ht
        have HT := Lib.hid ht
        clear ht
        go_round
        case rel => exact ⟨k + 1, by go_num, by omega, val_int (by
          rw [HY.out, i64_xor _ _ (combK_lt (m := 63) c s HS.out k) (getD_lt HS.out (by decide) k)]
          show _ = ((combK c s (k + 1) : Nat) : Int)
          rw [combK, HT.out, if_pos rfl])⟩
        case measure => simp [intOf]; omega
      · have ht : (((c : Int) / 2 ^ min k 64) % 2 == 1) = false := by assumption
        rw [bit_rem c k hc] at ht
        have HT := Lib.hid ht
        clear ht
        go_round
        case rel => exact ⟨k + 1, by go_num, by omega, val_int (by
          show _ = ((combK c s (k + 1) : Nat) : Int)
          rw [combK, HT.out]; rfl)⟩
        case measure => simp [intOf]; omega
    · obtain rfl : k = s.length := by omega
      go_wp2
      go_ret
      exact ⟨rfl, rfl⟩


set_option maxRecDepth 100000 in
theorem set_any (x : Int) (n : Nat) (w : World) (hn : n ≤ 16) :
    Calls Try.prog 33 #[.int .i64 x, .int .i64 n] w fun e w' => e = .returned (.int .i64 (remN x (2 ^ n) : Nat)) ∧ w = w' := by
  have h1 : 1 ≤ 2 ^ n := Nat.one_le_two_pow
  have ht := remN_tmod x h1
  have hlt := remN_lt x h1
  have hp : 2 ^ n ≤ 65536 := Nat.pow_le_pow_right (n := 2) (by decide) hn
  have hpi : ((2 ^ n : Nat) : Int) = (2 : Int) ^ n := by simp
  obtain ⟨P, hP⟩ : ∃ P, 2 ^ n = P := ⟨_, rfl⟩
  have hP2 : (2 : Int) ^ n = (P : Int) := by rw [← hpi, hP]
  rw [hP] at ht hlt hp h1 ⊢
  have hwP : IntKind.u64.wrap (P : Int) = (P : Int) := by rw [IntKind.wrap_u64]; omega
  have hP0 : ((P : Int) = 0) = False := by simp; omega
  obtain ⟨r, hr⟩ : ∃ r, remN x P = r := ⟨_, rfl⟩
  rw [hr] at ht hlt ⊢
  clear hP hr hpi
  go_enter Try.func33, Try.ntmps33
  go_wp2
  go_ret
  exact ⟨rfl, rfl⟩
end Go.Proofs.Ytpdgjjpfahobaaa
