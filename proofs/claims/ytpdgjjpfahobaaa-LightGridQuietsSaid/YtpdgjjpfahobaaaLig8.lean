/- The sets within a set, as an iterator: it hands out all numbers below a power of 2. -/
import Derived.Test.YtpdgjjpfahobaaaLig6
import Derived.Test.YtpdgjjpfahobaaaSeqB
namespace Go.Proofs.Ytpdgjjpfahobaaa
open Go.RowKit Go.Shelf Lamp

attribute [local go_sem] Oper.semAt_some

theorem and_next (m k : Nat) (hm : m ≤ 16) (hk : k + 1 < 2 ^ m) : bits BinOp.and IntKind.i64 ((k : Int) - ((2 ^ m - 1 : Nat) : Int)) ((2 ^ m - 1 : Nat) : Int) = ((k + 1 : Nat) : Int) := by
  have hp := pow_split hm
  have h1 : (BitVec.ofInt 64 ((k : Int) - ((2 ^ m - 1 : Nat) : Int))).toNat = 18446744073709551616 + k - (2 ^ m - 1) := by
    rw [BitVec.toNat_ofInt]
    omega
  have h2 : (BitVec.ofInt 64 (((2 ^ m - 1 : Nat) : Int))).toNat = 2 ^ m - 1 := ofInt_i64 _ (by omega)
  have h3 : (18446744073709551616 + k - (2 ^ m - 1)) &&& (2 ^ m - 1) = k + 1 := by
    rw [Nat.and_two_pow_sub_one_eq_mod]
    have h4 : 18446744073709551616 = 2 ^ m * 2 ^ (64 - m) := by rw [← Nat.pow_add, show m + (64 - m) = 64 by omega]
    have h5 : 18446744073709551616 + k - (2 ^ m - 1) = (k + 1) + 2 ^ m * (2 ^ (64 - m) - 1) := by
      rw [Nat.mul_sub, ← h4, Nat.mul_one]
      omega
    rw [h5, Nat.add_mul_mod_self_left, Nat.mod_eq_of_lt hk]
  show IntKind.i64.wrap ((BitVec.ofInt 64 ((k : Int) - ((2 ^ m - 1 : Nat) : Int)) &&& BitVec.ofInt 64 (((2 ^ m - 1 : Nat) : Int))).toNat : Int) = _
  rw [BitVec.toNat_and, h1, h2, h3]
  exact IntWalk.i64_in _ (by omega)

/-- The yielded value is that number. -/
def IsNat (x : Nat) (v : Value) (_ : World) : Prop := v = .int .i64 (x : Nat)

theorem range_snoc (k : Nat) : List.range (k + 1) = List.range k ++ [k] := List.range_succ
theorem range_prefix {k n : Nat} (h : k < n) : List.range k ++ [k] <+: List.range n := by
  rw [← range_snoc]
  refine ⟨(List.range n).drop (k + 1), ?_⟩
  have h1 : (List.range n).take (k + 1) = List.range (k + 1) := by rw [List.take_range]; congr 1; omega
  rw [← h1]; exact List.take_append_drop _ _

set_option maxRecDepth 100000 in
set_option maxHeartbeats 2000000 in
theorem within_seq (Bs m s : Nat) (D : Nat → Prop) (W1 : World) (hm : m ≤ 16) (hs : s = 2 ^ m - 1) (hbs : Box W1 Bs 3 #[.int .i64 (s : Nat)]) (hD : D Bs) :
    SeqE IsNat Try.prog 126 #[.pointer (some ⟨Bs, 0, none⟩)] D (List.range (2 ^ m)) W1 := by
  intro l J hJ0 hJ hY
  have HBS := Lib.hid hbs
  have HJ0 := Lib.hid (hJ0 W1.heap.size W1 (Below.refl _ _) (Nat.le_refl _) (Nat.le_refl _))
  have HY := Lib.hid hY
  have HS := Lib.hid hs
  have hp := pow_split hm
  have hp0 := Nat.two_pow_pos m
  have HP := Lib.hid (And.intro hp hp0)
  have hs16 : s < 65536 := by omega
  have HSP := Lib.hid (show s + 1 = 2 ^ m by omega)
  clear hbs hJ0 hJ hY hs hp hp0
  refine (callsIn_wide (n := 3)).1 ?_
  refine callsIn_of_wp Try.func126 rfl trivial ?_ rfl
  simp only [Try.ntmps126, List.size_toArray, List.length_cons, List.length_nil, Nat.reduceAdd, Nat.reduceSub, Array.replicate_succ, Array.replicate_zero, List.push_toArray, List.append_toArray, List.nil_append, List.cons_append]
  gi_wp2
  gi_loopw [3] (fun p wr => ∃ k : Nat, p = .int .i64 k ∧ k ≤ s ∧ Hid (J W1.heap.size (List.range k) wr) ∧ Hid (Box wr Bs 3 #[.int .i64 (s : Nat)])) (fun p _ => s - (intOf p).toNat)
  case atStart => exact ⟨0, rfl, by omega, HJ0, HBS⟩
  case round =>
    obtain ⟨k, rfl, hk, HJ1, HB1⟩ := hrel
    have HJK := HJ1
    have HBK := HB1
    clear HJ1 HB1
    obtain ⟨fn, tmps, assign, body, hy, hR⟩ := HY.out W1.heap.size (List.range k) k (.int .i64 k) wr HJK.out rfl (range_prefix (by have := HSP.out; omega))
    have hR := RoundIn.anyDepthE (m' := 2) hR
    by_cases hke : k = s
    · have hke' : ((k : Int) != (s : Int)) = false := by simp [hke]
      have HKE := Lib.hid hke
      clear hke
      gi_wp2_with ((try refine ⟨(fun h => by cases h), ?_⟩); refine hR.mono ?_; clear hR; rintro e W3 ⟨rfl, hJ3, hT3⟩; have c3 := (HBK.out.turn hT3 (fun h => h (.inl hD))).cell 0; simp only [List.getElem?_toArray, List.getElem?_cons_zero] at c3; have HJ3 := Lib.hid hJ3; clear hJ3 hT3)
      go_end0
      refine ⟨rfl, W1.heap.size, ?_⟩
      have h1 := HJ3.out
      rwa [← range_snoc, HKE.out, HSP.out] at h1
    · have hke' : ((k : Int) != (s : Int)) = true := by simp; omega
      have hks : k + 1 ≤ s := by omega
      have HKN := Lib.hid (show bits BinOp.and IntKind.i64 ((k : Int) - (s : Int)) (s : Int) = ((k + 1 : Nat) : Int) by
        have h1 := and_next m k hm (by have := HSP.out; omega)
        rw [HS.out]; exact h1)
      have HKS := Lib.hid (show IntKind.i64.wrap ((k : Int) - (s : Int)) = (k : Int) - (s : Int) from IntWalk.i64_in _ (by omega))
      clear hke
      gi_wp2_with ((try refine ⟨(fun h => by cases h), ?_⟩); refine hR.mono ?_; clear hR; rintro e W3 ⟨rfl, hJ3, hT3⟩; have hbx3 := HBK.out.turn hT3 (fun h => h (.inl hD)); have c3 := hbx3.cell 0; simp only [List.getElem?_toArray, List.getElem?_cons_zero] at c3; have HJ3 := Lib.hid hJ3; have HB3 := Lib.hid hbx3; clear hJ3 hT3 hbx3)
      go_roundw
      case rel =>
        refine ⟨k + 1, ?_, by omega, ?_, HB3⟩
        · first
            | exact val_int HKN.out
            | (exact val_int (by rw [HKS.out]; exact HKN.out))
        · rw [range_snoc]; exact HJ3
      case measure =>
        have h1 := HKN.out
        simp only [intOf, h1]
        omega
end Go.Proofs.Ytpdgjjpfahobaaa
