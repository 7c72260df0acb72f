/- Solve's bool: whether there is a game; and there is one just if there is one backwards, between the holes without pegs. -/
import Derived.Test.YthbhengcinkepaaPg18
import Derived.Test.YthbhengcinkepaaRJump
namespace Go.Proofs.Ythbhengcinkepaa
open Go.RowKit Lamp

theorem Solve_b (A : Option Addr) (c n p q : Nat) (l : List Tri) (w : World) (hr : RTri w w.heap.size A l) (hc : checkT n l = 0) (hp : p < 2 ^ n) (hq : q < 2 ^ n) :
    Calls Try.prog 26 #[.int .i64 n, .slice A l.length c, .int .i64 p, .int .i64 q] w fun e w' => ∃ s, e = .returned (.tuple #[s, .bool (hasQ (reachL (jumpsL l) p) q), .int .i64 0]) ∧ Below w.heap.size w w' := by
  obtain ⟨hn1, hn16, hl, hg⟩ := checkT_zero hc
  have hi := reachL_iff (n := n) (all := jumpsL l) (p := p) (by omega) (jumpsL_ok (goodT_ok hg)) hp q
  refine (Solve_ok A c n p q l w hr hc hp hq).mono ?_
  rintro e w' (⟨A2, c2, g, rfl, _, _, hgm, hb⟩ | ⟨rfl, hn, hb⟩)
  · rw [hi.2 ⟨g, hgm⟩]
    exact ⟨_, rfl, hb⟩
  · rw [hn]
    exact ⟨_, rfl, hb⟩
/-- The holes of a board without a peg. -/
def compN (n p : Nat) : Nat := (2 ^ n - 1) ^^^ p
theorem compN_lt {n p : Nat} (hp : p < 2 ^ n) : compN n p < 2 ^ n := comp_lt hp
theorem full_and {n p : Nat} (hp : p < 2 ^ n) : (2 ^ n - 1) &&& p = p := by
  rw [Nat.and_comm, Nat.and_two_pow_sub_one_eq_mod]
  exact Nat.mod_eq_of_lt hp
theorem andNot_full {n p : Nat} (hn : n ≤ 16) (hp : p < 2 ^ n) : bits .andNot .i64 ((2 ^ n - 1 : Nat) : Int) (p : Int) = ((compN n p : Nat) : Int) := by
  have h := pow_split hn
  rw [i64_andNot _ _ (by omega) (by omega), full_and hp]
  rfl
theorem solve_back {n : Nat} {l : List Tri} (hc : checkT n l = 0) {p q : Nat} (hp : p < 2 ^ n) (hq : q < 2 ^ n) : hasQ (reachL (jumpsL l) p) q = hasQ (reachL (jumpsL l) (compN n q)) (compN n p) := by
  obtain ⟨hn1, hn16, hl, hg⟩ := checkT_zero hc
  have hok := jumpsL_ok (goodT_ok hg)
  rw [Bool.eq_iff_iff, reachL_iff (by omega : n ≤ 16) hok hp q, reachL_iff (by omega : n ≤ 16) hok (compN_lt hq) (compN n p)]
  exact game_back hok
end Go.Proofs.Ythbhengcinkepaa
