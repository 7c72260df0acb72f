/- Small facts that all texts of this seat use: equal numbers make equal endings; what lies below a heap's size is kept. · Words for memory: a list of values lies at an address below a block; a slice of integers, a list of dice. No program is spoken of; each word is kept where the cells below the block are kept. · The ways of dice for a sum, as plain mathematics: adding a die one side after another, in whatever order the sums come. No program is spoken of. -/
import Derived.Test.YthbhengcinkepaaRows
import Derived.WalkKit
import Derived.WalkSpells
import Derived.WalkLawsBesides
import Derived.Deep.QuietTactic
import Derived.BigQuiet
import Derived.Lib.Hide
import Derived.Handy
import Derived.Maps.RangeWalk
import Derived.Maps.Ext
import Derived.Maps.OwnOps
import Derived.Maps.AppendAt
namespace Go.Proofs.Ythbhengcinkepaa
open Go.RowKit

theorem ret_int {k : IntKind} {a b : Int} (h : a = b) : Ending.returned (.int k a) = .returned (.int k b) := by rw [h]
theorem ret_bool {a b : Bool} (h : a = b) : Ending.returned (.bool a) = .returned (.bool b) := by rw [h]
theorem val_int {k : IntKind} {a b : Int} (h : a = b) : Value.int k a = .int k b := by rw [h]

theorem bcell {W w1 : World} (hb : Below W.heap.size W w1) : (∀ b o, b < W.heap.size → w1.cell? ⟨b, o, none⟩ = W.cell? ⟨b, o, none⟩) ∧ (∀ b o, b < W.heap.size → w1.frozen? ⟨b, o, none⟩ = W.frozen? ⟨b, o, none⟩) :=
  ⟨fun b o h => hb.cell (p := ⟨b, o, none⟩) h, fun b o h => hb.frozen (p := ⟨b, o, none⟩) h⟩

theorem drew2 {w : World} {n k : Nat} : ∃ m, (w.drewN n).drewN k = w.drewN m := ⟨n + k, World.drewN_drewN _ _ _⟩
theorem quiet_w {P : Program} {f : FuncId} {args : Array Value} {W : World} {X : Nat → World} {v : Value} (n : Nat)
    (c : Calls P f args W fun e w' => e = .returned v ∧ W = w') (h : W = X n) : Calls P f args W fun e w' => e = .returned v ∧ ∃ m, w' = X m :=
  c.mono fun _ _ ⟨he, hm⟩ => ⟨he, n, by rw [← hm, h]⟩
theorem quiet_d {P : Program} {f : FuncId} {args : Array Value} {w : World} {a n : Nat} {v : Value}
    (c : Calls P f args (w.drewN (a + n)) fun e w' => e = .returned v ∧ ∃ m, w' = (w.drewN (a + n)).drewN m) : Calls P f args (w.drewN (a + n)) fun e w' => e = .returned v ∧ ∃ m, w' = w.drewN (a + m) :=
  c.mono fun _ _ ⟨he, m, hm⟩ => ⟨he, n + m, by rw [hm, World.drewN_drewN, Nat.add_assoc]⟩
theorem quiet_d0 {P : Program} {f : FuncId} {args : Array Value} {w : World} {n : Nat} {v : Value}
    (c : Calls P f args (w.drewN n) fun e w' => e = .returned v ∧ ∃ m, w' = (w.drewN n).drewN m) : Calls P f args (w.drewN n) fun e w' => e = .returned v ∧ ∃ m, w' = w.drewN m :=
  c.mono fun _ _ ⟨he, m, hm⟩ => ⟨he, n + m, by rw [hm, World.drewN_drewN]⟩

end Go.Proofs.Ythbhengcinkepaa

namespace Go.Proofs.Ythbhengcinkepaa
open Go.RowKit

/-- The values lie one behind the other from the address on, in a block below B. (Of no values nothing is said.) -/
def Lies (w : World) (B : Nat) (A : Option Addr) (xs : List Value) : Prop :=
  ∀ (j : Nat) (u : Value), xs[j]? = some u → ∃ b o, A = some ⟨b, o, none⟩ ∧ b < B ∧ w.cell? ⟨b, o + j, none⟩ = some u

section
variable {w w' : World} {B B' : Nat} {A : Option Addr} {xs : List Value}
theorem Lies.nil_ : Lies w B A [] := fun j u h => by simp at h
theorem Lies.keep (h : Lies w B A xs) (hk : ∀ b o, b < B → w'.cell? ⟨b, o, none⟩ = w.cell? ⟨b, o, none⟩) : Lies w' B A xs := fun j u hu => by
  obtain ⟨b, o, e, hb, hc⟩ := h j u hu
  exact ⟨b, o, e, hb, (hk b _ hb).trans hc⟩
theorem Lies.more (h : Lies w B A xs) (hB : B ≤ B') : Lies w B' A xs := fun j u hu => by
  obtain ⟨b, o, e, hb, hc⟩ := h j u hu
  exact ⟨b, o, e, by omega, hc⟩
theorem Lies.below (h : Lies w B A xs) (hb : Below B w w') : Lies w' B A xs := h.keep fun b o hlt => hb.cell (p := ⟨b, o, none⟩) hlt
theorem Lies.drewN (h : Lies w B A xs) (n : Nat) : Lies (w.drewN n) B A xs := h.keep fun b o _ => by simp
theorem Lies.at_ {k : Nat} (h : Lies w B A xs) (hk : k < xs.length) : ∃ b o u, A = some ⟨b, o, none⟩ ∧ b < B ∧ xs[k]? = some u ∧ w.cell? ⟨b, o + k, none⟩ = some u := by
  obtain ⟨b, o, e, hb, hc⟩ := h k _ (List.getElem?_eq_getElem hk)
  exact ⟨b, o, _, e, hb, List.getElem?_eq_getElem hk, hc⟩
end

/-- The integers lie there. -/
def RInts (w : World) (B : Nat) (A : Option Addr) (zs : List Int) : Prop := Lies w B A (zs.map (Value.int .i64))
/-- A slice value that reads as the list of integers. -/
def RDie (w : World) (B : Nat) (v : Value) (d : List Int) : Prop := ∃ a c, v = .slice a d.length c ∧ d.length ≤ c ∧ RInts w B a d
/-- A list of slices that read as the lists. -/
def RDice (w : World) (B : Nat) (A : Option Addr) (ds : List (List Int)) : Prop :=
  ∃ vs : List Value, vs.length = ds.length ∧ Lies w B A vs ∧ ∀ (i : Nat) (v : Value) (d : List Int), vs[i]? = some v → ds[i]? = some d → RDie w B v d

section
variable {w w' : World} {B B' : Nat} {A : Option Addr} {zs : List Int} {ds : List (List Int)}
theorem RInts.nil_ : RInts w B A [] := Lies.nil_
theorem RInts.keep (h : RInts w B A zs) (hk : ∀ b o, b < B → w'.cell? ⟨b, o, none⟩ = w.cell? ⟨b, o, none⟩) : RInts w' B A zs := Lies.keep h hk
theorem RInts.more (h : RInts w B A zs) (hB : B ≤ B') : RInts w B' A zs := Lies.more h hB
theorem RInts.below (h : RInts w B A zs) (hb : Below B w w') : RInts w' B A zs := Lies.below h hb
theorem RInts.drewN (h : RInts w B A zs) (n : Nat) : RInts (w.drewN n) B A zs := Lies.drewN h n
theorem RInts.at_ {k : Nat} (h : RInts w B A zs) (hk : k < zs.length) : ∃ b o x, A = some ⟨b, o, none⟩ ∧ b < B ∧ zs[k]? = some x ∧ w.cell? ⟨b, o + k, none⟩ = some (.int .i64 x) := by
  obtain ⟨b, o, u, e, hb, hu, hc⟩ := Lies.at_ (k := k) h (by simpa using hk)
  rw [List.getElem?_map] at hu
  obtain ⟨x, hx, rfl⟩ := Option.map_eq_some_iff.1 hu
  exact ⟨b, o, x, e, hb, hx, hc⟩
theorem RDie.keep {v : Value} {d : List Int} (h : RDie w B v d) (hk : ∀ b o, b < B → w'.cell? ⟨b, o, none⟩ = w.cell? ⟨b, o, none⟩) : RDie w' B v d := by
  obtain ⟨a, c, e, hc, hr⟩ := h
  exact ⟨a, c, e, hc, hr.keep hk⟩
theorem RDie.more {v : Value} {d : List Int} (h : RDie w B v d) (hB : B ≤ B') : RDie w B' v d := by
  obtain ⟨a, c, e, hc, hr⟩ := h
  exact ⟨a, c, e, hc, hr.more hB⟩
theorem RDice.nil_ : RDice w B A [] := ⟨[], rfl, Lies.nil_, fun i v d h => by simp at h⟩
theorem RDice.keep (h : RDice w B A ds) (hk : ∀ b o, b < B → w'.cell? ⟨b, o, none⟩ = w.cell? ⟨b, o, none⟩) : RDice w' B A ds := by
  obtain ⟨vs, hl, hv, hd⟩ := h
  exact ⟨vs, hl, hv.keep hk, fun i v d h1 h2 => (hd i v d h1 h2).keep hk⟩
theorem RDice.more (h : RDice w B A ds) (hB : B ≤ B') : RDice w B' A ds := by
  obtain ⟨vs, hl, hv, hd⟩ := h
  exact ⟨vs, hl, hv.more hB, fun i v d h1 h2 => (hd i v d h1 h2).more hB⟩
theorem RDice.below (h : RDice w B A ds) (hb : Below B w w') : RDice w' B A ds := h.keep fun b o hlt => hb.cell (p := ⟨b, o, none⟩) hlt
theorem RDice.drewN (h : RDice w B A ds) (n : Nat) : RDice (w.drewN n) B A ds := h.keep fun b o _ => by simp
theorem RDice.at_ {k : Nat} (h : RDice w B A ds) (hk : k < ds.length) : ∃ b o a c d, A = some ⟨b, o, none⟩ ∧ b < B ∧ ds[k]? = some d ∧ w.cell? ⟨b, o + k, none⟩ = some (.slice a d.length c) ∧ d.length ≤ c ∧ RInts w B a d := by
  obtain ⟨vs, hl, hv, hd⟩ := h
  obtain ⟨b, o, u, e, hb, hu, hc⟩ := hv.at_ (k := k) (by omega)
  obtain ⟨a, c, rfl, hlc, hr⟩ := hd k u _ hu (List.getElem?_eq_getElem hk)
  exact ⟨b, o, a, c, _, e, hb, List.getElem?_eq_getElem hk, hc, hlc, hr⟩
end

end Go.Proofs.Ythbhengcinkepaa

namespace Go.Proofs.Ythbhengcinkepaa

/-- The sum, over the sides x of the die from index i on, of f at s - x, where that is not still to do. -/
def cv (f : Int → Int) (t : Nat → Int → Bool) : List Int → Nat → Int → Int
  | [], _, _ => 0
  | x :: r, i, s => (if t i (s - x) then 0 else f (s - x)) + cv f t r (i + 1) s

theorem cv_congr {f : Int → Int} {t t' : Nat → Int → Bool} : ∀ (d : List Int) (i : Nat) (s : Int), (∀ j y, i ≤ j → j < i + d.length → t j y = t' j y) → cv f t d i s = cv f t' d i s
  | [], _, _, _ => rfl
  | x :: r, i, s, h => by
    simp only [cv]
    rw [h i (s - x) (Nat.le_refl _) (by simp), cv_congr r (i + 1) s fun j y h1 h2 => h j y (by omega) (by simp; omega)]

theorem cv_le {f : Int → Int} {t : Nat → Int → Bool} {M : Int} (hf : ∀ y, 0 ≤ f y ∧ f y ≤ M) : ∀ (d : List Int) (i : Nat) (s : Int), 0 ≤ cv f t d i s ∧ cv f t d i s ≤ d.length * M
  | [], _, _ => by simp [cv]
  | x :: r, i, s => by
    have h1 := cv_le (t := t) hf r (i + 1) s
    have h2 := hf (s - x)
    have e : ((x :: r).length : Int) * M = M + r.length * M := by
      simp only [List.length_cons, Int.natCast_add, Int.natCast_one, Int.add_mul, Int.one_mul]; omega
    simp only [cv]
    split <;> omega

theorem cv_zero {f : Int → Int} {t : Nat → Int → Bool} {lo hi : Int} (hf : ∀ y, f y ≠ 0 → lo ≤ y ∧ y ≤ hi) : ∀ (d : List Int) (i : Nat) (s : Int), (∀ x ∈ d, 0 ≤ x ∧ x ≤ 60) → cv f t d i s ≠ 0 → lo ≤ s ∧ s ≤ hi + 60
  | [], _, _, _, h => by simp [cv] at h
  | x :: r, i, s, hd, h => by
    simp only [cv] at h
    by_cases h1 : cv f t r (i + 1) s = 0
    · rw [h1] at h
      have h2 : f (s - x) ≠ 0 := by
        intro e; apply h; split <;> simp [e]
      have := hf _ h2
      have := hd x (by simp)
      omega
    · exact cv_zero hf r (i + 1) s (fun y hy => hd y (by simp [hy])) h1

theorem cv_step {f : Int → Int} {t t' : Nat → Int → Bool} {j : Nat} {k : Int} (ht : t j k = true) (ht' : ∀ i y, t' i y = (t i y && !(decide (i = j) && decide (y = k)))) :
    ∀ (d : List Int) (p i : Nat) (x s : Int), d[p]? = some x → j = i + p → cv f t' d i s = cv f t d i s + if s = k + x then f k else 0
  | [], p, i, x, s, h, _ => by simp at h
  | y :: r, 0, i, x, s, h, hj => by
    simp only [List.getElem?_cons_zero, Option.some.injEq] at h
    subst h
    have hj : j = i := by omega
    subst hj
    simp only [cv]
    rw [cv_congr (t := t') (t' := t) r (j + 1) s fun i' z h1 h2 => by rw [ht']; simp [show i' ≠ j by omega]]
    rw [ht']
    by_cases e : s = k + y
    · have e2 : s - y = k := by omega
      rw [e2]
      simp [ht, e]
      omega
    · have e2 : s - y ≠ k := by omega
      simp [e2, e]
  | y :: r, p + 1, i, x, s, h, hj => by
    simp only [List.getElem?_cons_succ] at h
    simp only [cv]
    rw [cv_step ht ht' r p (i + 1) x s h (by omega), ht' i]
    simp [show i ≠ j by omega]
    omega

/-- Where a function is not nought. -/
def nz (f : Int → Int) : Int → Bool := fun x => decide (f x ≠ 0)
/-- The keys left but one. -/
def but (left : Int → Bool) (k : Int) : Int → Bool := fun z => left z && !decide (z = k)
theorem nz_iff {f : Int → Int} {x : Int} : nz f x = true ↔ f x ≠ 0 := by simp [nz]
theorem cv_none {f : Int → Int} : ∀ (d : List Int) (i : Nat) (s : Int), cv f (fun _ y => nz f y) d i s = 0
  | [], _, _ => rfl
  | x :: r, i, s => by
    simp only [cv]
    rw [cv_none r (i + 1) s]
    by_cases h : f (s - x) = 0 <;> simp [nz, h]
/-- What is still to do: the keys left but k, and k for the sides from j on. -/
def todo (left : Int → Bool) (k : Int) (j : Nat) : Nat → Int → Bool := fun i y => left y && !(decide (y = k) && decide (i < j))
theorem todo_zero (left : Int → Bool) (k : Int) : todo left k 0 = fun _ y => left y := by
  funext i y; simp [todo]
theorem todo_step (left : Int → Bool) (k : Int) (j i : Nat) (y : Int) : todo left k (j + 1) i y = (todo left k j i y && !(decide (i = j) && decide (y = k))) := by
  simp only [todo]
  by_cases h1 : y = k <;> by_cases h2 : i < j <;> by_cases h3 : i = j <;> simp [h1, h2, h3, show (i < j + 1) ↔ (i < j ∨ i = j) by omega]
theorem todo_at {left : Int → Bool} {k : Int} {j : Nat} (h : left k = true) : todo left k j j k = true := by simp [todo, h]
theorem cv_todo_end (f : Int → Int) (left : Int → Bool) (k : Int) (d : List Int) (s : Int) : cv f (todo left k d.length) d 0 s = cv f (fun _ z => but left k z) d 0 s :=
  cv_congr d 0 s fun j y _ h => by simp only [todo, but]; simp [show j < d.length by omega]

/-- One die more: for each sum the ways before, at each side. -/
def conv (f : Int → Int) (d : List Int) : Int → Int := fun s => cv f (fun _ _ => false) d 0 s
/-- The ways of no dice: the sum 0, in one way. -/
def one0 : Int → Int := fun s => if s = 0 then 1 else 0
/-- The ways of some dice. -/
def waysF (ds : List (List Int)) : Int → Int := ds.foldl conv one0

theorem waysF_snoc (ds : List (List Int)) (k : Nat) (d : List Int) (h : ds[k]? = some d) : waysF (ds.take (k + 1)) = conv (waysF (ds.take k)) d := by
  have hk : k < ds.length := (List.getElem?_eq_some_iff.1 h).1
  have he : ds[k] = d := (List.getElem?_eq_some_iff.1 h).2
  rw [List.take_succ_eq_append_getElem hk, waysF, List.foldl_append, he]
  rfl

/-- What dice are: at most 8 sides, from 0 to 60. -/
def DieOk (d : List Int) : Prop := d.length ≤ 8 ∧ ∀ x ∈ d, 0 ≤ x ∧ x ≤ 60
/-- Ways of k dice: from 0 to M, and none but for sums from 0 to 60 k. -/
def WaysOk (f : Int → Int) (k M : Nat) : Prop := (∀ y, 0 ≤ f y ∧ f y ≤ M) ∧ ∀ y, f y ≠ 0 → 0 ≤ y ∧ y ≤ 60 * k

theorem waysOk_one : WaysOk one0 0 1 := ⟨fun y => by unfold one0; split <;> omega, fun y h => by unfold one0 at h; split at h <;> omega⟩
theorem waysOk_cv {f : Int → Int} {k M : Nat} {t : Nat → Int → Bool} {d : List Int} (h : WaysOk f k M) (hd : DieOk d) : WaysOk (fun s => cv f t d 0 s) (k + 1) (8 * M) := by
  refine ⟨fun y => ?_, fun y hy => ?_⟩
  · have h1 := cv_le (t := t) h.1 d 0 y
    have h2 : (d.length : Int) * M ≤ 8 * M := Int.mul_le_mul_of_nonneg_right (by have := hd.1; omega) (by omega)
    push_cast
    exact ⟨h1.1, by omega⟩
  · have := cv_zero (lo := 0) (hi := 60 * k) h.2 d 0 y hd.2 hy
    push_cast
    omega
theorem waysOk_take (ds : List (List Int)) (hd : ∀ d ∈ ds, DieOk d) : ∀ k, k ≤ ds.length → WaysOk (waysF (ds.take k)) k (8 ^ k)
  | 0, _ => by simpa [waysF] using waysOk_one
  | k + 1, hk => by
    have h := waysOk_take ds hd k (by omega)
    rw [waysF_snoc ds k _ (List.getElem?_eq_getElem (by omega)), Nat.pow_succ, Nat.mul_comm]
    exact waysOk_cv h (hd _ (List.getElem_mem _))
theorem waysOk_all (ds : List (List Int)) (hd : ∀ d ∈ ds, DieOk d) (hl : ds.length ≤ 6) : WaysOk (waysF ds) 6 262144 := by
  have h := waysOk_take ds hd ds.length (Nat.le_refl _)
  rw [List.take_length] at h
  have h8 : 8 ^ ds.length ≤ 262144 := by
    have := Nat.pow_le_pow_right (n := 8) (by omega) hl
    simpa using this
  exact ⟨fun y => by have := h.1 y; omega, fun y hy => by have := h.2 y hy; omega⟩

end Go.Proofs.Ythbhengcinkepaa
