/- Lamps as plain mathematics: sums of bools, how many lamps two sets have in common, symmetric graphs; what no set reaches is refuted by a quiet set; with own all lamps are an effect. No program is spoken of. -/
import Derived.Test.YthbhengcinkepaaLampL
import Derived.Test.YthbhengcinkepaaPopL
namespace Go.Proofs.Ythbhengcinkepaa.Lamp

/-- The sum modulo 2. -/
def sumB (f : Nat → Bool) : Nat → Bool
  | 0 => false
  | k + 1 => (sumB f k).xor (f k)
theorem sumB_congr {f g : Nat → Bool} {k : Nat} (h : ∀ i, i < k → f i = g i) : sumB f k = sumB g k := by
  induction k with
  | zero => rfl
  | succ k ih => rw [sumB, sumB, ih (fun i hi => h i (by omega)), h k (by omega)]
theorem sumB_false (k : Nat) : sumB (fun _ => false) k = false := by
  induction k with
  | zero => rfl
  | succ k ih => rw [sumB, ih]; rfl
theorem sumB_xor (f g : Nat → Bool) (k : Nat) : sumB (fun i => (f i).xor (g i)) k = (sumB f k).xor (sumB g k) := by
  induction k with
  | zero => rfl
  | succ k ih =>
    simp only [sumB, ih]
    cases sumB f k <;> cases sumB g k <;> cases f k <;> cases g k <;> rfl
theorem sumB_and (b : Bool) (f : Nat → Bool) (k : Nat) : sumB (fun i => b && f i) k = (b && sumB f k) := by
  cases b
  · simp only [Bool.false_and]; exact sumB_false k
  · simp only [Bool.true_and]
theorem sumB_swap (F : Nat → Nat → Bool) (m n : Nat) : sumB (fun i => sumB (fun j => F i j) n) m = sumB (fun j => sumB (fun i => F i j) m) n := by
  induction m with
  | zero => exact (sumB_false n).symm
  | succ m ih => simp only [sumB, ih, sumB_xor]
/-- Of a symmetric table only the diagonal counts. -/
theorem sumB_diag (F : Nat → Nat → Bool) (k : Nat) (h : ∀ i j, i < k → j < k → F i j = F j i) : sumB (fun i => sumB (fun j => F i j) k) k = sumB (fun i => F i i) k := by
  induction k with
  | zero => rfl
  | succ k ih =>
    have h1 := ih (fun i j hi hj => h i j (by omega) (by omega))
    have h2 : sumB (fun i => F i k) k = sumB (fun j => F k j) k := sumB_congr fun i hi => h i k (by omega) (by omega)
    simp only [sumB, sumB_xor, h1, h2]
    cases sumB (fun i => F i i) k <;> cases sumB (fun j => F k j) k <;> cases F k k <;> rfl
theorem sumB_one (f : Nat → Bool) (g k : Nat) (hg : g < k) (h : ∀ i, i < k → i ≠ g → f i = false) : sumB f k = f g := by
  induction k with
  | zero => omega
  | succ k ih =>
    rw [sumB]
    by_cases e : g = k
    · subst e
      rw [sumB_congr (g := fun _ => false) (fun i hi => h i (by omega) (by omega)), sumB_false]
      simp
    · rw [ih (by omega) (fun i hi hne => h i (by omega) hne), h k (by omega) (Ne.symm e)]
      simp

/-- The parity of a set below 2^16. -/
def par (x : Nat) : Bool := sumB (fun i => x.testBit i) 16
/-- Whether two sets have an odd number of lamps in common. -/
def ip (x y : Nat) : Bool := sumB (fun i => x.testBit i && y.testBit i) 16
theorem popK_par (x k : Nat) : decide (popK x k % 2 = 1) = sumB (fun i => x.testBit i) k := by
  induction k with
  | zero => rfl
  | succ k ih =>
    rw [sumB, ← ih, popK, Nat.testBit_eq_decide_div_mod_eq]
    have h2 := Nat.mod_two_eq_zero_or_one (x / 2 ^ k)
    have h3 := Nat.mod_two_eq_zero_or_one (popK x k)
    rw [Bool.eq_iff_iff]
    rcases h2 with h2 | h2 <;> rcases h3 with h3 | h3 <;> simp [h2, h3] <;> omega
theorem popc_par (x : Nat) : decide (popc x % 2 = 1) = par x := popK_par x 16
theorem par_and (x y : Nat) : par (x &&& y) = ip x y := by
  unfold par ip
  exact sumB_congr fun i _ => by rw [Nat.testBit_and]
theorem ip_comm (x y : Nat) : ip x y = ip y x := sumB_congr fun _i _ => Bool.and_comm _ _
theorem ip_xor (x y z : Nat) : ip x (y ^^^ z) = (ip x y).xor (ip x z) := by
  unfold ip
  rw [← sumB_xor]
  refine sumB_congr fun i _ => ?_
  rw [Nat.testBit_xor]
  cases x.testBit i <;> cases y.testBit i <;> cases z.testBit i <;> rfl
theorem ip_zero (x : Nat) : ip x 0 = false := by
  unfold ip
  rw [sumB_congr (g := fun _ => false) (fun i _ => by simp), sumB_false]
theorem ip_combK (x y : Nat) (s : List Nat) (k : Nat) : ip x (combK y s k) = sumB (fun i => y.testBit i && ip x (s.getD i 0)) k := by
  induction k with
  | zero => exact ip_zero x
  | succ k ih =>
    rw [combK, sumB, ← ih]
    cases h : y.testBit k
    · simp
    · rw [if_pos rfl, ip_xor]; simp
theorem comb_16 (y : Nat) (s : List Nat) (h : s.length ≤ 16) : comb y s = combK y s 16 := by
  unfold comb
  rw [combK_more y s s.length 16 h (fun i h1 _ _ => by rw [List.getD_eq_getElem?_getD, List.getElem?_eq_none h1]; rfl)]

/-- Lamp i switches lamp j just if j switches i. -/
def Sym (s : List Nat) : Prop := s.length ≤ 16 ∧ ∀ i j, i < 16 → j < 16 → (s.getD i 0).testBit j = (s.getD j 0).testBit i
theorem ip_sym {s : List Nat} (hs : Sym s) (x y : Nat) : ip x (comb y s) = ip y (comb x s) := by
  have h1 : ∀ a b, ip a (comb b s) = sumB (fun i => sumB (fun j => b.testBit i && (a.testBit j && (s.getD i 0).testBit j)) 16) 16 := by
    intro a b
    rw [comb_16 b s hs.1, ip_combK]
    refine sumB_congr fun i _ => ?_
    rw [sumB_and]; rfl
  rw [h1, h1, sumB_swap]
  refine sumB_congr fun i hi => sumB_congr fun j hj => ?_
  rw [hs.2 j i hj hi]
  cases x.testBit i <;> cases y.testBit j <;> simp
/-- With own the effect of a set has as many lamps in common with it as it has, modulo 2. -/
theorem ip_own {s : List Nat} (hs : Sym s) {n x : Nat} (hd : ∀ i, i < n → (s.getD i 0).testBit i = true) (hx : x < 2 ^ n) : ip x (comb x s) = par x := by
  rw [comb_16 x s hs.1, ip_combK]
  have h1 : (sumB (fun i => x.testBit i && ip x (s.getD i 0)) 16) = sumB (fun i => sumB (fun j => x.testBit i && (x.testBit j && (s.getD i 0).testBit j)) 16) 16 := by
    refine sumB_congr fun i _ => ?_
    rw [sumB_and]; rfl
  rw [h1, sumB_diag _ _ (fun i j hi hj => by rw [hs.2 i j hi hj]; cases x.testBit i <;> cases x.testBit j <;> simp)]
  unfold par
  refine sumB_congr fun i _ => ?_
  cases h : x.testBit i
  · rfl
  · have hin : i < n := by
      apply Decidable.byContradiction
      intro hc
      rw [Nat.testBit_lt_two_pow (Nat.lt_of_lt_of_le hx (Nat.pow_le_pow_right (by decide) (by omega)))] at h
      cases h
    rw [hd i hin]; rfl

/-- The set that has lamp g, no lamp of an empty place but g, and an even number of lamps in common with each row. -/
def dualB (S : Nat → Nat) (T : Nat → Bool) (g k x : Nat) : Bool := if T k then ip x (S k) else decide (k = g)
def dual (S : Nat → Nat) (T : Nat → Bool) (g : Nat) : Nat → Nat
  | 0 => 0
  | k + 1 => if dualB S T g k (dual S T g k) then dual S T g k ^^^ 2 ^ k else dual S T g k
theorem dual_succ (S : Nat → Nat) (T : Nat → Bool) (g k : Nat) : dual S T g (k + 1) = if dualB S T g k (dual S T g k) then dual S T g k ^^^ 2 ^ k else dual S T g k := rfl
theorem dual_lt (S : Nat → Nat) (T : Nat → Bool) (g k : Nat) : dual S T g k < 2 ^ k := by
  induction k with
  | zero => exact Nat.one_pos
  | succ k ih =>
    have h2 : (2:Nat) ^ k < 2 ^ (k + 1) := Nat.pow_lt_pow_right (by decide) (by omega)
    rw [dual_succ]
    split
    · exact Nat.xor_lt_two_pow (by omega) h2
    · omega
theorem dual_zero (S : Nat → Nat) (T : Nat → Bool) (g k : Nat) (h : k ≤ g) : dual S T g k = 0 := by
  induction k with
  | zero => rfl
  | succ k ih =>
    have h1 := ih (by omega)
    rw [dual_succ]
    rw [h1, if_neg]
    unfold dualB
    rw [ip_comm, ip_zero]
    split
    · decide
    · simp; omega
theorem dual_bit (S : Nat → Nat) (T : Nat → Bool) (g k n i : Nat) (hk : k ≤ n) (hi : i < k) : (dual S T g n).testBit i = (dual S T g k).testBit i := by
  induction n with
  | zero => omega
  | succ n ih =>
    by_cases e : k = n + 1
    · rw [e]
    · have h1 := ih (by omega)
      rw [dual_succ]
      split
      · rw [Nat.testBit_xor, Nat.testBit_two_pow, h1]
        have : ¬ n = i := by omega
        simp [this]
      · exact h1
theorem dual_at (S : Nat → Nat) (T : Nat → Bool) (g k n : Nat) (hk : k < n) : (dual S T g n).testBit k = dualB S T g k (dual S T g k) := by
  rw [dual_bit S T g (k + 1) n k hk (Nat.lt_succ_self k)]
  have h1 := Nat.testBit_lt_two_pow (dual_lt S T g k)
  rw [dual_succ]
  cases h : dualB S T g k (dual S T g k)
  · simp [h1]
  · rw [if_pos rfl, Nat.testBit_xor, Nat.testBit_two_pow, h1]; simp
theorem ip_low {x y v t : Nat} (_ht : t ≤ 16) (hv : v < 2 ^ t) (h : ∀ i, i < t → x.testBit i = y.testBit i) : ip x v = ip y v := by
  refine sumB_congr fun i _ => ?_
  by_cases hi : i < t
  · rw [h i hi]
  · rw [Nat.testBit_lt_two_pow (Nat.lt_of_lt_of_le hv (Nat.pow_le_pow_right (by decide) (by omega)))]; simp
/-- It has an even number of lamps in common with each row whose greatest lamp is its place. -/
theorem dual_row (S : Nat → Nat) (T : Nat → Bool) (g k : Nat) (hk : k < 16) (hT : T k = true) (h1 : 2 ^ k ≤ S k) (h2 : S k < 2 ^ (k + 1)) : ip (dual S T g 16) (S k) = false := by
  have h3 : S k = (S k ^^^ 2 ^ k) ^^^ 2 ^ k := (xor_cancel _ _).symm
  have h4 : S k ^^^ 2 ^ k < 2 ^ k := xor_tops h1 h2 (Nat.le_refl _) (Nat.pow_lt_pow_right (by decide) (by omega))
  have h5 : ip (dual S T g 16) (S k ^^^ 2 ^ k) = ip (dual S T g k) (S k ^^^ 2 ^ k) := ip_low (by omega) h4 (fun i hi => dual_bit S T g k 16 i (by omega) hi)
  have h6 : ip (dual S T g 16) (2 ^ k) = (dual S T g 16).testBit k := by
    unfold ip
    rw [sumB_one _ k 16 hk (fun i _ hne => by rw [Nat.testBit_two_pow]; have : ¬ k = i := Ne.symm hne; simp [this])]
    simp 
  have h7 : ip (dual S T g k) (S k) = (ip (dual S T g k) (S k ^^^ 2 ^ k)) := by
    have h8 : ip (dual S T g k) (2 ^ k) = false := by
      unfold ip
      rw [sumB_congr (g := fun _ => false) (fun i _ => ?_), sumB_false]
      rw [Nat.testBit_two_pow]
      by_cases e : k = i
      · subst e; rw [Nat.testBit_lt_two_pow (dual_lt S T g k)]; rfl
      · simp [e]
    conv => lhs; rw [h3, ip_xor, h8]
    simp
  rw [h3, ip_xor, h5, h6, dual_at S T g k 16 hk, show dualB S T g k (dual S T g k) = ip (dual S T g k) (S k) by unfold dualB; rw [if_pos hT], h7]
  simp
end Go.Proofs.Ythbhengcinkepaa.Lamp
