/- Small functions of package light: halves of a row, the greatest lamp, whether a pair is an edge, what sets make together. -/
import Derived.Test.YtpdgjjpfahobaaaMem
import Derived.Test.YtpdgjjpfahobaaaLampL
import Derived.Laws.BitsAllLaws
import Derived.IntWalk
namespace Go.Proofs.Ytpdgjjpfahobaaa
open Go.RowKit Lamp

theorem i64_nat (op : BinOp) (f : Nat → Nat → Nat) (a b : Nat) (h : (match op with | .and => BitVec.ofInt 64 (a : Int) &&& BitVec.ofInt 64 (b : Int) | .or => BitVec.ofInt 64 (a : Int) ||| BitVec.ofInt 64 (b : Int) | .xor => BitVec.ofInt 64 (a : Int) ^^^ BitVec.ofInt 64 (b : Int) | _ => BitVec.ofInt 64 (a : Int) &&& ~~~(BitVec.ofInt 64 (b : Int))).toNat = f a b) (hf : f a b < 9223372036854775808) : bits op .i64 (a : Int) (b : Int) = ((f a b : Nat) : Int) := by
  show IntKind.i64.wrap (((match op with | .and => BitVec.ofInt 64 (a : Int) &&& BitVec.ofInt 64 (b : Int) | .or => BitVec.ofInt 64 (a : Int) ||| BitVec.ofInt 64 (b : Int) | .xor => BitVec.ofInt 64 (a : Int) ^^^ BitVec.ofInt 64 (b : Int) | _ => BitVec.ofInt 64 (a : Int) &&& ~~~(BitVec.ofInt 64 (b : Int))).toNat : Nat) : Int) = _
  rw [h]
  exact IntWalk.i64_in _ (by omega)
theorem ofInt_i64 (a : Nat) (ha : a < 9223372036854775808) : (BitVec.ofInt 64 (a : Int)).toNat = a := by
  rw [BitVec.ofInt_natCast, BitVec.toNat_ofNat]; exact Nat.mod_eq_of_lt (by omega)
theorem i64_xor (a b : Nat) (ha : a < 9223372036854775808) (hb : b < 9223372036854775808) : bits .xor .i64 (a : Int) (b : Int) = ((a ^^^ b : Nat) : Int) :=
  i64_nat .xor (· ^^^ ·) a b (by simp only [BitVec.toNat_xor, ofInt_i64 a ha, ofInt_i64 b hb]) (Nat.xor_lt_two_pow (n := 63) ha hb)
theorem i64_or (a b : Nat) (ha : a < 9223372036854775808) (hb : b < 9223372036854775808) : bits .or .i64 (a : Int) (b : Int) = ((a ||| b : Nat) : Int) :=
  i64_nat .or (· ||| ·) a b (by simp only [BitVec.toNat_or, ofInt_i64 a ha, ofInt_i64 b hb]) (Nat.or_lt_two_pow (n := 63) ha hb)
theorem i64_and (a b : Nat) (ha : a < 9223372036854775808) (hb : b < 9223372036854775808) : bits .and .i64 (a : Int) (b : Int) = ((a &&& b : Nat) : Int) :=
  i64_nat .and (· &&& ·) a b (by simp only [BitVec.toNat_and, ofInt_i64 a ha, ofInt_i64 b hb]) (Nat.lt_of_le_of_lt Nat.and_le_left ha)
theorem and_low (r : Nat) : r &&& 65535 = r % 65536 := Nat.and_two_pow_sub_one_eq_mod r 16
theorem and_one (r : Nat) : r &&& 1 = r % 2 := Nat.and_two_pow_sub_one_eq_mod r 1
theorem or_row (p s : Nat) (hp : p < 65536) : s * 65536 ||| p = rowV p s := by
  have h := Nat.two_pow_add_eq_or_of_lt (i := 16) (b := p) hp s
  rw [Nat.mul_comm (2 ^ 16) s] at h
  exact h.symm
theorem w64 {x : Int} (h : -9223372036854775808 ≤ x ∧ x ≤ 9223372036854775807) : wrap64 x = x := by unfold wrap64; omega
theorem switched_any (r : Nat) (w : World) (hr : r < 4294967296) :
    Calls Try.prog 96 #[.int .u32 r] w fun e w' => e = .returned (.int .i64 ((r / 65536 : Nat) : Int)) ∧ w = w' := by
  go_enter Try.func96, Try.ntmps96
  go_wp2
  go_ret
  exact ⟨ret_int (by omega), rfl⟩
theorem pressed_any (r : Nat) (w : World) (hr : r < 4294967296) :
    Calls Try.prog 99 #[.int .u32 r] w fun e w' => e = .returned (.int .i64 ((r % 65536 : Nat) : Int)) ∧ w = w' := by
  have h1 := u32_and_nat r 65535 hr (by decide)
  rw [and_low] at h1
  have H1 := Lib.hid h1
  clear h1
  go_enter Try.func99, Try.ntmps99
  go_wp2
  go_ret
  exact ⟨ret_int (by
    have h2 := H1.out
    show wrap64 (bits BinOp.and IntKind.u32 (↑r) 65535) = _
    rw [show (65535 : Int) = ((65535 : Nat) : Int) from rfl, h2]
    exact w64 (by omega)), rfl⟩
theorem rowOf_any (p s : Nat) (w : World) (hp : p < 65536) (hs : s < 65536) :
    Calls Try.prog 98 #[.int .i64 p, .int .i64 s] w fun e w' => e = .returned (.int .u32 ((rowV p s : Nat) : Int)) ∧ w = w' := by
  have h1 := i64_or (s * 65536) p (by omega) (by omega)
  rw [or_row p s hp] at h1
  have H1 := Lib.hid h1
  have H2 := Lib.hid (show rowV p s < 4294967296 by unfold rowV; omega)
  clear h1
  go_enter Try.func98, Try.ntmps98
  go_wp2
  go_ret
  exact ⟨ret_int (by
    have h2 := H1.out
    have h3 := H2.out
    show bits BinOp.or IntKind.i64 ((s : Int) * 65536) (p : Int) % 4294967296 = _
    rw [show ((s : Int) * 65536) = ((s * 65536 : Nat) : Int) by omega, h2]
    omega), rfl⟩

/-- Whether a pair is an edge of n lamps. -/
def edgeB (n : Int) (e : Int × Int) : Bool := decide (0 ≤ e.1) && (decide (e.1 < e.2) && decide (e.2 < n))

theorem isEdge_any (n a b : Int) (w : World) :
    Calls Try.prog 62 #[.int .i64 n, .agg #[.int .i64 a, .int .i64 b]] w fun e w' => e = .returned (.bool (edgeB n (a, b))) ∧ ∃ k, w' = (w.alloc (Obj.cells #[.int .i64 a, .int .i64 b] 41)).drewN k := by
  go_enter Try.func62, Try.ntmps62
  go_wp2
  go_quiet (fail)
  go_wp2
  all_goals
    go_ret
    exact ⟨ret_bool (by first | (simp [edgeB, *]; done) | (simp [edgeB]; omega)), _, rfl⟩

/-- Natural numbers as integers. -/
def natV (l : List Nat) : List Int := l.map fun (x : Nat) => (x : Int)
theorem natV_len (l : List Nat) : (natV l).length = l.length := by simp [natV]
theorem natV_at {l : List Nat} {k : Nat} {x : Int} (h : (natV l)[k]? = some x) : x = ((l.getD k 0 : Nat) : Int) ∧ k < l.length := by
  simp only [natV, List.getElem?_map, Option.map_eq_some_iff] at h
  obtain ⟨y, h1, rfl⟩ := h
  exact ⟨by rw [List.getD_eq_getElem?_getD, h1]; rfl, (List.getElem?_eq_some_iff.1 h1).1⟩

theorem bit_test (c k : Nat) (hc : c < 9223372036854775808) : (bits BinOp.and IntKind.i64 ((c : Int) / 2 ^ min k 64) 1 == 1) = c.testBit k := by
  have h1 : (c : Int) / 2 ^ min k 64 = ((c / 2 ^ min k 64 : Nat) : Int) := by simp
  have h2 : c / 2 ^ min k 64 < 9223372036854775808 := Nat.lt_of_le_of_lt (Nat.div_le_self _ _) hc
  rw [h1, show (1 : Int) = ((1 : Nat) : Int) from rfl, i64_and _ 1 h2 (by decide), and_one, Nat.testBit_eq_decide_div_mod_eq]
  have h3 : c / 2 ^ min k 64 = c / 2 ^ k := by
    by_cases h : k ≤ 64
    · rw [Nat.min_eq_left h]
    · rw [Nat.min_eq_right (by omega), Nat.div_eq_of_lt (Nat.lt_of_lt_of_le hc (by decide)), Nat.div_eq_of_lt (Nat.lt_of_lt_of_le hc (Nat.le_trans (by decide : 9223372036854775808 ≤ 2 ^ 64) (Nat.pow_le_pow_right (by decide) (by omega))))]
  rw [h3]
  generalize c / 2 ^ k % 2 = m
  by_cases h : m = 1
  · subst h; rfl
  · have h4 : ¬ ((m : Int) = ((1 : Nat) : Int)) := by omega
    simp [h]
    omega

theorem getD_lt {s : List Nat} {M : Nat} (hs : ∀ x ∈ s, x < M) (hM : 0 < M) (k : Nat) : s.getD k 0 < M := by
  rw [List.getD_eq_getElem?_getD]
  cases h : s[k]? with
  | none => exact hM
  | some x => exact hs x (List.mem_of_getElem? h)

set_option maxHeartbeats 400000 in
theorem combined_any (A : Option Addr) (c : Nat) (s : List Nat) (n cap B : Nat) (w : World) (hn : n = s.length) (hr : RInts w B A (natV s)) (hl : s.length ≤ 1000000) (hc : c < 9223372036854775808) (hs : ∀ x ∈ s, x < 9223372036854775808) :
    Calls Try.prog 103 #[.int .i64 c, .slice A n cap] w fun e w' => e = .returned (.int .i64 ((comb c s : Nat) : Int)) ∧ w = w' := by
  subst hn
  have HR := Lib.hid hr
  have HS := Lib.hid hs
  clear hr hs
  go_enter Try.func103, Try.ntmps103
  go_wp2_with fail
  go_loop [5, 10] (fun t i => ∃ k : Nat, i = .int .i64 k ∧ k ≤ s.length ∧ t = .int .i64 ((combK c s k : Nat) : Int)) (fun _ i => s.length - (intOf i).toNat)
  case atStart => exact ⟨0, rfl, by omega, rfl⟩
  case round =>
    obtain ⟨k, rfl, hk, rfl⟩ := hrel
    by_cases hlt : k < s.length
    · obtain ⟨b, o, x, hA, hb, hx, hcx⟩ := HR.out.at_ (k := k) (by rw [natV_len]; exact hlt)
      subst hA
      obtain ⟨y, rfl, HY⟩ : ∃ y : Nat, x = (y : Int) ∧ Hid (y = s.getD k 0) := ⟨_, (natV_at hx).1, Lib.hid rfl⟩
      clear hx
      go_wp2
      · have ht : (bits BinOp.and IntKind.i64 ((c : Int) / 2 ^ min k 64) 1 == 1) = true := by assumption
        rw [bit_test c k hc] at ht
        have HT := Lib.hid ht
        clear ht
        go_round
        case rel => exact ⟨k + 1, by go_num, by omega, val_int (by
          rw [HY.out, i64_xor _ _ (combK_lt (m := 63) c s HS.out k) (getD_lt HS.out (by decide) k)]
          show _ = ((combK c s (k + 1) : Nat) : Int)
          rw [combK, HT.out, if_pos rfl])⟩
        case measure => simp [intOf]; omega
      · have ht : (bits BinOp.and IntKind.i64 ((c : Int) / 2 ^ min k 64) 1 == 1) = false := by assumption
        rw [bit_test c k hc] at ht
        have HT := Lib.hid ht
        clear ht
        go_round
        case rel => exact ⟨k + 1, by go_num, by omega, val_int (by
          show _ = ((combK c s (k + 1) : Nat) : Int)
          rw [combK, HT.out]; rfl)⟩
        case measure => simp [intOf]; omega
    · obtain rfl : k = s.length := by omega
      go_wp2
      go_ret
      exact ⟨rfl, rfl⟩

end Go.Proofs.Ytpdgjjpfahobaaa
