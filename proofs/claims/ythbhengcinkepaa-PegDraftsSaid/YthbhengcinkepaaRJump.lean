/- The jumps that can be made, put one by one into their places: the list is that of the sorted jumps. No program is spoken of. · The reference's Jump (package peg): it makes a jump, if it can be made. -/
import Derived.Test.YthbhengcinkepaaPg10
import Derived.Test.YthbhengcinkepaaGames
import Derived.Test.YthbhengcinkepaaRCheck2
namespace Go.Proofs.Ythbhengcinkepaa
open Go.RowKit Lamp

/-- A list of triples that doesn't fall. -/
def UpT (l : List Tri) : Prop := l.Pairwise fun a b => ltT b a = false
theorem ltT_trans' {a b c : Tri} (h1 : ltT b a = false) (h2 : ltT c b = false) : ltT c a = false := by
  rw [ltT_no] at *
  omega
theorem UpT.put {l : List Tri} {x : Tri} {k : Nat} (h : UpT l) (hk : k ≤ l.length) (h1 : ∀ i, i < k → ltT (l.getD i (0, 0, 0)) x = true) (h2 : k < l.length → ltT (l.getD k (0, 0, 0)) x = false) : UpT (l.take k ++ [x] ++ l.drop k) := by
  have hl : UpT (l.take k ++ l.drop k) := by rw [List.take_append_drop]; exact h
  unfold UpT at hl ⊢
  rw [List.pairwise_append] at hl
  obtain ⟨hl1, hl2, hl3⟩ := hl
  have ha : ∀ a ∈ l.take k, ltT x a = false := by
    intro a ha
    obtain ⟨i, hi, rfl⟩ := List.getElem_of_mem ha
    rw [List.length_take] at hi
    have := h1 i (by omega)
    rw [List.getD_eq_getElem?_getD, List.getElem?_eq_getElem (by omega)] at this
    rw [List.getElem_take]
    simp only [Option.getD_some] at this
    rw [ltT_iff] at this
    rw [ltT_no]
    omega
  have hb : ∀ b ∈ l.drop k, ltT b x = false := by
    intro b hb
    by_cases hk2 : k < l.length
    · have h3 := h2 hk2
      rw [List.getD_eq_getElem?_getD, List.getElem?_eq_getElem hk2] at h3
      simp only [Option.getD_some] at h3
      rw [List.drop_eq_getElem_cons hk2, List.mem_cons] at hb
      rcases hb with rfl | hb
      · exact h3
      · rw [List.drop_eq_getElem_cons hk2, List.pairwise_cons] at hl2
        exact ltT_trans' h3 (hl2.1 b hb)
    · rw [List.drop_eq_nil_of_le (by omega)] at hb
      cases hb
  rw [List.append_assoc, List.pairwise_append]
  refine ⟨hl1, ?_, ?_⟩
  · rw [List.singleton_append, List.pairwise_cons]
    exact ⟨hb, hl2⟩
  · intro a haa b hbb
    rw [List.singleton_append, List.mem_cons] at hbb
    rcases hbb with rfl | hbb
    · exact ha a haa
    · exact hl3 a haa b hbb
theorem put_perm (l : List Tri) (x : Tri) (k : Nat) : (l.take k ++ [x] ++ l.drop k).Perm (l ++ [x]) := by
  rw [List.append_assoc, List.singleton_append]
  refine List.perm_middle.trans ?_
  rw [List.take_append_drop]
  exact (List.perm_append_singleton x l).symm
theorem jumpsL_up (l : List Tri) : UpT (jumpsL l) := by
  unfold UpT jumpsL
  have h := List.pairwise_mergeSort (le := fun x y => !ltT y x) (fun a b c h1 h2 => by
    simp only [Bool.not_eq_true'] at h1 h2 ⊢
    exact ltT_trans' h1 h2) (fun a b => by
    cases h1 : ltT b a <;> cases h2 : ltT a b <;> simp
    rw [ltT_iff] at h1 h2
    omega) (bothL l)
  exact h.imp fun h => by simpa using h
/-- The jumps that can be made, in their order, are those of the sorted list. -/
theorem jumps_are {l : List Tri} {P : Tri → Bool} {out : List Tri} (hu : UpT out) (hp : out.Perm ((bothL l).filter P)) : out = (jumpsL l).filter P := by
  refine List.Perm.eq_of_pairwise (le := fun a b => ltT b a = false) ?_ hu ((jumpsL_up l).sublist List.filter_sublist) (hp.trans ((List.mergeSort_perm _ _).filter _).symm)
  intro a b _ _ h1 h2
  exact ltT_total a b (by rw [ltOf_cmp]; exact h2) (by rw [ltOf_cmp]; exact h1)
end Go.Proofs.Ythbhengcinkepaa

namespace Go.Proofs.Ythbhengcinkepaa
open Go.RowKit Lamp

theorem i64_andNot (a b : Nat) (ha : a < 9223372036854775808) (hb : b < 9223372036854775808) : bits .andNot .i64 (a : Int) (b : Int) = ((a ^^^ (a &&& b) : Nat) : Int) :=
  i64_nat .andNot (fun a b => a ^^^ (a &&& b)) a b (by
    have e : BitVec.ofInt 64 (a : Int) &&& ~~~(BitVec.ofInt 64 (b : Int)) = BitVec.ofInt 64 (a : Int) ^^^ (BitVec.ofInt 64 (a : Int) &&& BitVec.ofInt 64 (b : Int)) := by
      ext i hi
      simp only [BitVec.getElem_and, BitVec.getElem_not, BitVec.getElem_xor]
      cases (BitVec.ofInt 64 (a : Int))[i] <;> cases (BitVec.ofInt 64 (b : Int))[i] <;> rfl
    simp only [e, BitVec.toNat_xor, BitVec.toNat_and, ofInt_i64 a ha, ofInt_i64 b hb]) (Nat.xor_lt_two_pow (n := 63) ha (Nat.lt_of_le_of_lt Nat.and_le_left ha))

theorem jump_val {a b c p : Nat} (ha : a < 16) (hb : b < 16) (hc : c < 16) (hp : p < 65536) (hab : a ≠ b) (hac : a ≠ c) (hbc : b ≠ c) (h1 : p.testBit a = true) (h2 : p.testBit b = true) (h3 : p.testBit c = false) :
    bits .or .i64 (bits .andNot .i64 (bits .andNot .i64 (p : Int) (wrap64 (2 ^ a))) (wrap64 (2 ^ b))) (wrap64 (2 ^ c)) = ((fromJ ((a : Int), (b : Int), (c : Int)) p : Nat) : Int) := by
  have l1 := pow_l16 ha
  have l2 := pow_l16 hb
  have l3 := pow_l16 hc
  have k1 : p ^^^ (p &&& 2 ^ a) < 65536 := Nat.xor_lt_two_pow (n := 16) hp (Nat.lt_of_le_of_lt Nat.and_le_left hp)
  have k2 : (p ^^^ (p &&& 2 ^ a)) ^^^ ((p ^^^ (p &&& 2 ^ a)) &&& 2 ^ b) < 65536 := Nat.xor_lt_two_pow (n := 16) k1 (Nat.lt_of_le_of_lt Nat.and_le_left k1)
  rw [shl_1 a ha, shl_1 b hb, shl_1 c hc, i64_andNot p (2 ^ a) (by omega) (by omega), i64_andNot _ (2 ^ b) (by omega) (by omega), i64_or _ (2 ^ c) (by omega) (by omega)]
  congr 1
  unfold fromJ
  refine Nat.eq_of_testBit_eq fun i => ?_
  simp only [Nat.testBit_or, Nat.testBit_xor, Nat.testBit_and, Nat.testBit_two_pow, holesM_bit]
  by_cases e1 : a = i
  · subst e1
    simp [h1, Ne.symm hab, Ne.symm hac]
  · by_cases e2 : b = i
    · subst e2
      simp [h2, hab, Ne.symm hbc]
    · by_cases e3 : c = i
      · subst e3
        simp [h3, hac, hbc]
      · simp [e1, e2, e3]

set_option maxHeartbeats 4000000 in
theorem RJump_any (a b c p : Nat) (w : World) (ha : a < 16) (hb : b < 16) (hc : c < 16) (hp : p < 65536) (hab : a ≠ b) (hac : a ≠ c) (hbc : b ≠ c) :
    Calls Try.prog 24 #[.int .i64 p, .agg #[.int .i64 a, .int .i64 b, .int .i64 c]] w fun e w' => e = .returned (.tuple #[.int .i64 (if canJ ((a : Int), (b : Int), (c : Int)) p then fromJ ((a : Int), (b : Int), (c : Int)) p else p : Nat), .bool (canJ ((a : Int), (b : Int), (c : Int)) p)]) ∧ Below w.heap.size w w' := by
  have HV := Lib.hid (fun h1 h2 h3 => jump_val ha hb hc hp hab hac hbc h1 h2 h3)
  have hcj := canJ_bits (a := a) (b := b) (c := c) p hac hbc
  have t1 : p.testBit a = decide (p / 2 ^ a % 2 = 1) := Nat.testBit_eq_decide_div_mod_eq
  have t2 : p.testBit b = decide (p / 2 ^ b % 2 = 1) := Nat.testBit_eq_decide_div_mod_eq
  have t3 : p.testBit c = decide (p / 2 ^ c % 2 = 1) := Nat.testBit_eq_decide_div_mod_eq
  obtain ⟨g, hg⟩ : ∃ g, canJ ((a : Int), (b : Int), (c : Int)) p = g := ⟨_, rfl⟩
  obtain ⟨f, hf⟩ : ∃ f, fromJ ((a : Int), (b : Int), (c : Int)) p = f := ⟨_, rfl⟩
  rw [hf] at HV ⊢
  rw [hg] at hcj ⊢
  obtain ⟨u, hu⟩ : ∃ u, p / 2 ^ a = u := ⟨_, rfl⟩
  obtain ⟨v, hv⟩ : ∃ v, p / 2 ^ b = v := ⟨_, rfl⟩
  obtain ⟨t, ht⟩ : ∃ t, p / 2 ^ c = t := ⟨_, rfl⟩
  have hui : (p : Int) / 2 ^ a = (u : Int) := by rw [← hu]; simp
  have hvi : (p : Int) / 2 ^ b = (v : Int) := by rw [← hv]; simp
  have hti : (p : Int) / 2 ^ c = (t : Int) := by rw [← ht]; simp
  rw [hu] at t1
  rw [hv] at t2
  rw [ht] at t3
  rw [t1, t2, t3] at hcj
  rw [t1, t2, t3] at HV
  have HG := Lib.hid hcj
  clear hg hf hu hv ht t1 t2 t3 hcj
  by_cases h1 : u % 2 = 1
  · by_cases h2 : v % 2 = 1
    · by_cases h3 : t % 2 = 1
      · skip
        have eu : (u : Int).tmod 2 = 1 := by rw [Int.tmod_eq_emod_of_nonneg (by omega)]; omega
        have eu' : (u : Int) % 2 = 1 := by omega
        have ev : (v : Int).tmod 2 = 1 := by rw [Int.tmod_eq_emod_of_nonneg (by omega)]; omega
        have ev' : (v : Int) % 2 = 1 := by omega
        have et : (t : Int).tmod 2 = 1 := by rw [Int.tmod_eq_emod_of_nonneg (by omega)]; omega
        have et' : (t : Int) % 2 = 1 := by omega
        have hgf : g = false := by rw [HG.out]; simp [h3]
        clear HG HV
        subst hgf
        go_enter Try.func24, Try.ntmps24
        go_wp2_with fail
        go_ret2
        exact ⟨rfl, below_drewN ((Below.refl _ w).alloc (Nat.le_refl _) _) 0⟩
      · skip
        have eu : (u : Int).tmod 2 = 1 := by rw [Int.tmod_eq_emod_of_nonneg (by omega)]; omega
        have eu' : (u : Int) % 2 = 1 := by omega
        have ev : (v : Int).tmod 2 = 1 := by rw [Int.tmod_eq_emod_of_nonneg (by omega)]; omega
        have ev' : (v : Int) % 2 = 1 := by omega
        have et : (t : Int).tmod 2 = 0 := by rw [Int.tmod_eq_emod_of_nonneg (by omega)]; omega
        have et' : (t : Int) % 2 = 0 := by omega
        have hgf : g = true := by rw [HG.out]; simp [h1, h2, h3]
        have hval := HV.out (by simp [h1]) (by simp [h2]) (by simp [h3])
        clear HG HV
        subst hgf
        go_enter Try.func24, Try.ntmps24
        go_wp2_with fail
        go_quiet (fail)
        go_wp2_with fail
        go_ret2
        exact ⟨rfl, below_drewN ((Below.refl _ w).alloc (Nat.le_refl _) _) nq⟩
    · skip
      have eu : (u : Int).tmod 2 = 1 := by rw [Int.tmod_eq_emod_of_nonneg (by omega)]; omega
      have eu' : (u : Int) % 2 = 1 := by omega
      have ev : (v : Int).tmod 2 = 0 := by rw [Int.tmod_eq_emod_of_nonneg (by omega)]; omega
      have ev' : (v : Int) % 2 = 0 := by omega
      have hgf : g = false := by rw [HG.out]; simp [h2]
      clear HG HV
      subst hgf
      go_enter Try.func24, Try.ntmps24
      go_wp2_with fail
      go_ret2
      exact ⟨rfl, below_drewN ((Below.refl _ w).alloc (Nat.le_refl _) _) 0⟩
  · skip
    have eu : (u : Int).tmod 2 = 0 := by rw [Int.tmod_eq_emod_of_nonneg (by omega)]; omega
    have eu' : (u : Int) % 2 = 0 := by omega
    have hgf : g = false := by rw [HG.out]; simp [h1]
    clear HG HV
    subst hgf
    go_enter Try.func24, Try.ntmps24
    go_wp2_with fail
    go_ret2
    exact ⟨rfl, below_drewN ((Below.refl _ w).alloc (Nat.le_refl _) _) 0⟩
end Go.Proofs.Ythbhengcinkepaa
