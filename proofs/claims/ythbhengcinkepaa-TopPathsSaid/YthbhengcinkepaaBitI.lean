/- Bits of integers below 2^63, natural numbers as integers. No program is spoken of. -/
import Derived.Test.YthbhengcinkepaaMem
import Derived.Laws.BitsAllLaws
import Derived.IntWalk
namespace Go.Proofs.Ythbhengcinkepaa
open Go.RowKit

theorem i64_nat (op : BinOp) (f : Nat → Nat → Nat) (a b : Nat) (h : (match op with | .and => BitVec.ofInt 64 (a : Int) &&& BitVec.ofInt 64 (b : Int) | .or => BitVec.ofInt 64 (a : Int) ||| BitVec.ofInt 64 (b : Int) | .xor => BitVec.ofInt 64 (a : Int) ^^^ BitVec.ofInt 64 (b : Int) | _ => BitVec.ofInt 64 (a : Int) &&& ~~~(BitVec.ofInt 64 (b : Int))).toNat = f a b) (hf : f a b < 9223372036854775808) : bits op .i64 (a : Int) (b : Int) = ((f a b : Nat) : Int) := by
  show IntKind.i64.wrap (((match op with | .and => BitVec.ofInt 64 (a : Int) &&& BitVec.ofInt 64 (b : Int) | .or => BitVec.ofInt 64 (a : Int) ||| BitVec.ofInt 64 (b : Int) | .xor => BitVec.ofInt 64 (a : Int) ^^^ BitVec.ofInt 64 (b : Int) | _ => BitVec.ofInt 64 (a : Int) &&& ~~~(BitVec.ofInt 64 (b : Int))).toNat : Nat) : Int) = _
  rw [h]
  exact IntWalk.i64_in _ (by omega)
theorem ofInt_i64 (a : Nat) (ha : a < 9223372036854775808) : (BitVec.ofInt 64 (a : Int)).toNat = a := by
  rw [BitVec.ofInt_natCast, BitVec.toNat_ofNat]; exact Nat.mod_eq_of_lt (by omega)
theorem i64_xor (a b : Nat) (ha : a < 9223372036854775808) (hb : b < 9223372036854775808) : bits .xor .i64 (a : Int) (b : Int) = ((a ^^^ b : Nat) : Int) :=
  i64_nat .xor (· ^^^ ·) a b (by simp only [BitVec.toNat_xor, ofInt_i64 a ha, ofInt_i64 b hb]) (Nat.xor_lt_two_pow (n := 63) ha hb)
theorem i64_or (a b : Nat) (ha : a < 9223372036854775808) (hb : b < 9223372036854775808) : bits .or .i64 (a : Int) (b : Int) = ((a ||| b : Nat) : Int) :=
  i64_nat .or (· ||| ·) a b (by simp only [BitVec.toNat_or, ofInt_i64 a ha, ofInt_i64 b hb]) (Nat.or_lt_two_pow (n := 63) ha hb)
theorem i64_and (a b : Nat) (ha : a < 9223372036854775808) (hb : b < 9223372036854775808) : bits .and .i64 (a : Int) (b : Int) = ((a &&& b : Nat) : Int) :=
  i64_nat .and (· &&& ·) a b (by simp only [BitVec.toNat_and, ofInt_i64 a ha, ofInt_i64 b hb]) (Nat.lt_of_le_of_lt Nat.and_le_left ha)
theorem and_low (r : Nat) : r &&& 65535 = r % 65536 := Nat.and_two_pow_sub_one_eq_mod r 16
theorem and_one (r : Nat) : r &&& 1 = r % 2 := Nat.and_two_pow_sub_one_eq_mod r 1
theorem w64 {x : Int} (h : -9223372036854775808 ≤ x ∧ x ≤ 9223372036854775807) : wrap64 x = x := by unfold wrap64; omega
/-- Natural numbers as integers. -/
def natV (l : List Nat) : List Int := l.map fun (x : Nat) => (x : Int)
theorem natV_len (l : List Nat) : (natV l).length = l.length := by simp [natV]
theorem natV_at {l : List Nat} {k : Nat} {x : Int} (h : (natV l)[k]? = some x) : x = ((l.getD k 0 : Nat) : Int) ∧ k < l.length := by
  simp only [natV, List.getElem?_map, Option.map_eq_some_iff] at h
  obtain ⟨y, h1, rfl⟩ := h
  exact ⟨by rw [List.getD_eq_getElem?_getD, h1]; rfl, (List.getElem?_eq_some_iff.1 h1).1⟩

theorem bit_test (c k : Nat) (hc : c < 9223372036854775808) : (bits BinOp.and IntKind.i64 ((c : Int) / 2 ^ min k 64) 1 == 1) = c.testBit k := by
  have h1 : (c : Int) / 2 ^ min k 64 = ((c / 2 ^ min k 64 : Nat) : Int) := by simp
  have h2 : c / 2 ^ min k 64 < 9223372036854775808 := Nat.lt_of_le_of_lt (Nat.div_le_self _ _) hc
  rw [h1, show (1 : Int) = ((1 : Nat) : Int) from rfl, i64_and _ 1 h2 (by decide), and_one, Nat.testBit_eq_decide_div_mod_eq]
  have h3 : c / 2 ^ min k 64 = c / 2 ^ k := by
    by_cases h : k ≤ 64
    · rw [Nat.min_eq_left h]
    · rw [Nat.min_eq_right (by omega), Nat.div_eq_of_lt (Nat.lt_of_lt_of_le hc (by decide)), Nat.div_eq_of_lt (Nat.lt_of_lt_of_le hc (Nat.le_trans (by decide : 9223372036854775808 ≤ 2 ^ 64) (Nat.pow_le_pow_right (by decide) (by omega))))]
  rw [h3]
  generalize c / 2 ^ k % 2 = m
  by_cases h : m = 1
  · subst h; rfl
  · have h4 : ¬ ((m : Int) = ((1 : Nat) : Int)) := by omega
    simp [h]
    omega

theorem getD_lt {s : List Nat} {M : Nat} (hs : ∀ x ∈ s, x < M) (hM : 0 < M) (k : Nat) : s.getD k 0 < M := by
  rw [List.getD_eq_getElem?_getD]
  cases h : s[k]? with
  | none => exact hM
  | some x => exact hs x (List.mem_of_getElem? h)

end Go.Proofs.Ythbhengcinkepaa
