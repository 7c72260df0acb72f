/- Small functions of package light: halves of a row, the greatest lamp, whether a pair is an edge, what sets make together. -/
import Derived.Test.YthbhengcinkepaaMem
import Derived.Test.YthbhengcinkepaaLampL
import Derived.Test.YthbhengcinkepaaBitI
import Derived.Laws.BitsAllLaws
import Derived.IntWalk
namespace Go.Proofs.Ythbhengcinkepaa.Lig
open Go.RowKit Lamp

theorem or_row (p s : Nat) (hp : p < 65536) : s * 65536 ||| p = rowV p s := by
  have h := Nat.two_pow_add_eq_or_of_lt (i := 16) (b := p) hp s
  rw [Nat.mul_comm (2 ^ 16) s] at h
  exact h.symm
theorem switched_any (r : Nat) (w : World) (hr : r < 4294967296) :
    Calls Try.prog 132 #[.int .u32 r] w fun e w' => e = .returned (.int .i64 ((r / 65536 : Nat) : Int)) ∧ w = w' := by
  go_enter Try.func132, Try.ntmps132
  go_wp2
  go_ret
  exact ⟨ret_int (by omega), rfl⟩
theorem pressed_any (r : Nat) (w : World) (hr : r < 4294967296) :
    Calls Try.prog 135 #[.int .u32 r] w fun e w' => e = .returned (.int .i64 ((r % 65536 : Nat) : Int)) ∧ w = w' := by
  have h1 := u32_and_nat r 65535 hr (by decide)
  rw [and_low] at h1
  have H1 := Lib.hid h1
  clear h1
  go_enter Try.func135, Try.ntmps135
  go_wp2
  go_ret
  exact ⟨ret_int (by
    have h2 := H1.out
    show wrap64 (bits BinOp.and IntKind.u32 (↑r) 65535) = _
    rw [show (65535 : Int) = ((65535 : Nat) : Int) from rfl, h2]
    exact w64 (by omega)), rfl⟩
theorem rowOf_any (p s : Nat) (w : World) (hp : p < 65536) (hs : s < 65536) :
    Calls Try.prog 134 #[.int .i64 p, .int .i64 s] w fun e w' => e = .returned (.int .u32 ((rowV p s : Nat) : Int)) ∧ w = w' := by
  have h1 := i64_or (s * 65536) p (by omega) (by omega)
  rw [or_row p s hp] at h1
  have H1 := Lib.hid h1
  have H2 := Lib.hid (show rowV p s < 4294967296 by unfold rowV; omega)
  clear h1
  go_enter Try.func134, Try.ntmps134
  go_wp2
  go_ret
  exact ⟨ret_int (by
    have h2 := H1.out
    have h3 := H2.out
    show bits BinOp.or IntKind.i64 ((s : Int) * 65536) (p : Int) % 4294967296 = _
    rw [show ((s : Int) * 65536) = ((s * 65536 : Nat) : Int) by omega, h2]
    omega), rfl⟩

/-- Whether a pair is an edge of n lamps. -/
def edgeB (n : Int) (e : Int × Int) : Bool := decide (0 ≤ e.1) && (decide (e.1 < e.2) && decide (e.2 < n))

theorem isEdge_any (n a b : Int) (w : World) :
    Calls Try.prog 164 #[.int .i64 n, .agg #[.int .i64 a, .int .i64 b]] w fun e w' => e = .returned (.bool (edgeB n (a, b))) ∧ ∃ k, w' = (w.alloc (Obj.cells #[.int .i64 a, .int .i64 b] 41)).drewN k := by
  go_enter Try.func164, Try.ntmps164
  go_wp2
  go_quiet (fail)
  go_wp2
  all_goals
    go_ret
    exact ⟨ret_bool (by first | (simp [edgeB, *]; done) | (simp [edgeB]; omega)), _, rfl⟩

set_option maxHeartbeats 400000 in
theorem combined_any (A : Option Addr) (c : Nat) (s : List Nat) (n cap B : Nat) (w : World) (hn : n = s.length) (hr : RInts w B A (natV s)) (hl : s.length ≤ 1000000) (hc : c < 9223372036854775808) (hs : ∀ x ∈ s, x < 9223372036854775808) :
    Calls Try.prog 136 #[.int .i64 c, .slice A n cap] w fun e w' => e = .returned (.int .i64 ((comb c s : Nat) : Int)) ∧ w = w' := by
  subst hn
  have HR := Lib.hid hr
  have HS := Lib.hid hs
  clear hr hs
  go_enter Try.func136, Try.ntmps136
  go_wp2_with fail
  go_loop [5, 10] (fun t i => ∃ k : Nat, i = .int .i64 k ∧ k ≤ s.length ∧ t = .int .i64 ((combK c s k : Nat) : Int)) (fun _ i => s.length - (intOf i).toNat)
  case atStart => exact ⟨0, rfl, by omega, rfl⟩
  case round =>
    obtain ⟨k, rfl, hk, rfl⟩ := hrel
    by_cases hlt : k < s.length
    · obtain ⟨b, o, x, hA, hb, hx, hcx⟩ := HR.out.at_ (k := k) (by rw [natV_len]; exact hlt)
      subst hA
      obtain ⟨y, rfl, HY⟩ : ∃ y : Nat, x = (y : Int) ∧ Hid (y = s.getD k 0) := ⟨_, (natV_at hx).1, Lib.hid rfl⟩
      clear hx
      go_wp2
      · have ht : (bits BinOp.and IntKind.i64 ((c : Int) / 2 ^ min k 64) 1 == 1) = true := by assumption
        rw [bit_test c k hc] at ht
        have HT := Lib.hid ht
        clear ht
        go_round
        case rel => exact ⟨k + 1, by go_num, by omega, val_int (by
          rw [HY.out, i64_xor _ _ (combK_lt (m := 63) c s HS.out k) (getD_lt HS.out (by decide) k)]
          show _ = ((combK c s (k + 1) : Nat) : Int)
          rw [combK, HT.out, if_pos rfl])⟩
        case measure => simp [intOf]; omega
      · have ht : (bits BinOp.and IntKind.i64 ((c : Int) / 2 ^ min k 64) 1 == 1) = false := by assumption
        rw [bit_test c k hc] at ht
        have HT := Lib.hid ht
        clear ht
        go_round
        case rel => exact ⟨k + 1, by go_num, by omega, val_int (by
          show _ = ((combK c s (k + 1) : Nat) : Int)
          rw [combK, HT.out]; rfl)⟩
        case measure => simp [intOf]; omega
    · obtain rfl : k = s.length := by omega
      go_wp2
      go_ret
      exact ⟨rfl, rfl⟩

end Go.Proofs.Ythbhengcinkepaa.Lig
