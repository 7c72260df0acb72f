/- Words for maps from int to int64: a block is a map that reads as a function with a set of keys; the laws of look-up, store and range over it, for the walk. -/
import Derived.Test.YthbhengcinkepaaMem
namespace Go.Proofs.Ythbhengcinkepaa
open Go.RowKit Go.Maps

/-- A number that an int holds. -/
def W64 (x : Int) : Prop := -9223372036854775808 ≤ x ∧ x ≤ 9223372036854775807
theorem W64.wf {x : Int} (h : W64 x) : (Lit.int .i64 x).wf = true := WalkArith.wf_i64 h
theorem W64.of {x : Int} (h : (Lit.int .i64 x).wf = true) : W64 x := by
  simp [Lit.wf, IntKind.min, IntKind.max, IntKind.bits, IntKind.signed] at h
  unfold W64
  omega

theorem lawI : Keyed Try.prog 3 := int_keyed Try.underlying3
theorem zeroI (w : World) : (zeroValue 2).run Try.prog w = .ok (.int .i64 0) w := by kernel_rfl
theorem keyI {x : Int} (h : W64 x) : keyOf Try.prog 3 (.int .i64 x) = some (.int .i64 x) := keyOf_int_mk Try.underlying3 h.wf

theorem same_int (x y : Int) : (Lit.int .i64 y).sameKey (.int .i64 x) = decide (y = x) := by
  by_cases h : y = x
  · subst h
    rw [WideAt.sameKey_self (by trivial)]; simp
  · rw [sameKey_ne (fun e => h (by injection e))]; simp [h]

/-- Block b is a map of at most n entries with the keys S that reads as f. -/
def MapF (w : World) (b n : Nat) (f : Int → Int) (S : Int → Bool) : Prop :=
  ∃ D : DataW Unit, w.ownsMap Try.prog 3 (plainElem Try.prog 2) b n D ∧
    (∀ x, W64 x → D.atKey (.int .i64 x) (.lit (.int .i64 0)) = .lit (.int .i64 (f x))) ∧ ∀ x, W64 x → Maps.has D (.int .i64 x) = S x

def upd (f : Int → Int) (x v : Int) : Int → Int := fun y => if y = x then v else f y
def ins (S : Int → Bool) (x : Int) : Int → Bool := fun y => S y || decide (y = x)

section
variable {w w' : World} {b n : Nat} {f : Int → Int} {S : Int → Bool}
theorem MapF.lt (h : MapF w b n f S) : b < w.heap.size := by
  obtain ⟨D, h, _⟩ := h; exact h.lt
theorem MapF.kept {row : Option Nat} (h : MapF w b n f S) (hg : w.grownBy w' row) (hne : some b ≠ row) : MapF w' b n f S := by
  obtain ⟨D, h, h2⟩ := h; exact ⟨D, h.kept hg hne, h2⟩
theorem MapF.mono {n' : Nat} (h : MapF w b n f S) (hn : n ≤ n') : MapF w b n' f S := by
  obtain ⟨D, h, h2⟩ := h; exact ⟨D, h.mono hn, h2⟩
theorem MapF.alloc (h : MapF w b n f S) (o : Obj) : MapF (w.alloc o) b n f S := by
  obtain ⟨D, h, h2⟩ := h; exact ⟨D, h.alloc o, h2⟩
theorem MapF.drewN (h : MapF w b n f S) (k : Nat) : MapF (w.drewN k) b n f S := h
theorem MapF.new (w : World) : MapF (w.alloc (.map #[] 0)) w.heap.size 0 (fun _ => 0) (fun _ => false) :=
  ⟨.map [], World.ownsMap_made _ _ _ _, fun _ _ => rfl, fun _ _ => rfl⟩
theorem MapF.congr {f' : Int → Int} {S' : Int → Bool} (h : MapF w b n f S) (hf : ∀ x, W64 x → f x = f' x) (hS : ∀ x, W64 x → S x = S' x) : MapF w b n f' S' := by
  obtain ⟨D, h, h1, h2⟩ := h
  exact ⟨D, h, fun x hx => by rw [h1 x hx, hf x hx], fun x hx => by rw [h2 x hx, hS x hx]⟩
/-- What is no key reads as nought. -/
theorem MapF.zero (h : MapF w b n f S) {x : Int} (hx : W64 x) (hS : S x = false) : f x = 0 := by
  obtain ⟨D, h, h1, h2⟩ := h
  have e := h1 x hx
  rw [Maps.atKey_of_not_has (by rw [h2 x hx, hS])] at e
  injection e with e
  injection e with _ e
  exact e.symm
theorem size_le_of_owns {D : DataW Unit} (h : w.ownsMap Try.prog 3 (plainElem Try.prog 2) b n D) : Maps.size D ≤ n := by
  obtain ⟨es, clock, _, _, hn, rfl⟩ := h
  rw [Maps.size_eq, length_sorted]
  simpa using hn
end

section
variable (w : World) {ops : Array Oper} {rest : List Oper} {o : Oper} {a : Act} {Q : Exit → Act → World → Prop} {b n : Nat} {f : Int → Int} {S : Int → Bool}

/-- The look-up m[k]. -/
theorem wpList_look (hg : o.guard = none) (m x : Operand) (hop : o.op = Op.lookup 146 m x false) (hm : a.eval m = .map (some b)) (h : MapF w b n f S) (y : Int) (hx : a.eval x = .int .i64 y) (hy : W64 y)
    (hK : wpList Try.prog ops Q rest (a.put o.dst (.int .i64 (f y))) w) : wpList Try.prog ops Q (o :: rest) a w := by
  obtain ⟨D, h, h1, h2⟩ := h
  refine wpList_lookup_own_int w hg m x 146 hop 3 2 .i64 lawI Try.underlying146 Try.underlying2 (zeroI _) b n D hm h _ _ hx (keyI hy) fun c hat _ => ?_
  have e := h1 y hy
  rw [hat] at e
  injection e with e
  injection e with _ e
  rw [e]
  exact hK

/-- The store m[k] = v. -/
theorem wpList_store (hg : o.guard = none) (m x v : Operand) (hop : o.op = Op.mapUpdate 146 m x v) (hm : a.eval m = .map (some b)) (h : MapF w b n f S) (hn : n < 1000000000) (y c : Int) (hx : a.eval x = .int .i64 y) (hv : a.eval v = .int .i64 c) (hy : W64 y) (hc : W64 c)
    (hK : ∀ w', MapF w' b (n + 1) (upd f y c) (ins S y) → w.grownBy w' (some b) → wpList Try.prog ops Q rest (a.put o.dst undef) w') : wpList Try.prog ops Q (o :: rest) a w := by
  obtain ⟨D, h, h1, h2⟩ := h
  refine wpList_mapUpdate_own w hg m x v 146 hop 3 2 lawI Try.underlying146 _ b n D hm h (by unfold maxLen; omega) _ _ _ hx hv (keyI hy) _ [] (plainElem_int Try.underlying2 hc.wf) fun w1 hown1 hgrow1 => ?_
  have hD : IsMap D := (h.canon lawI).elim fun es he => ⟨es, he.1⟩
  refine hK w1 ⟨_, hown1, fun z hz => ?_, fun z hz => ?_⟩ hgrow1
  · by_cases e : z = y
    · subst e
      rw [Maps.atKey_put_same hD (by trivial)]
      simp [upd]
    · rw [Maps.atKey_put_other (fun h => e (by injection h)), h1 z hz]
      simp [upd, e]
  · by_cases e : z = y
    · subst e
      rw [Maps.has_put_same hD (by trivial)]
      simp [ins]
    · rw [Maps.has_put_other (fun h => e (by injection h)), h2 z hz]
      simp [ins, e]

theorem owns_tight {w : World} {b n n' : Nat} {D : DataW Unit} (h : w.ownsMap Try.prog 3 (plainElem Try.prog 2) b n' D) (hs : Maps.size D ≤ n) : w.ownsMap Try.prog 3 (plainElem Try.prog 2) b n D := by
  obtain ⟨es, clock, hb, ft, _, rfl⟩ := h
  rw [Maps.size_eq, length_sorted] at hs
  exact ⟨es, clock, hb, ft, by simpa using hs, rfl⟩

/-- The store m[k] = v at a key that is there: no entry more. -/
theorem wpList_put (hg : o.guard = none) (m x v : Operand) (hop : o.op = Op.mapUpdate 146 m x v) (hm : a.eval m = .map (some b)) (h : MapF w b n f S) (hn : n < 1000000000) (y c : Int) (hx : a.eval x = .int .i64 y) (hv : a.eval v = .int .i64 c) (hy : W64 y) (hc : W64 c) (hS : S y = true)
    (hK : ∀ w', MapF w' b n (upd f y c) S → w.grownBy w' (some b) → wpList Try.prog ops Q rest (a.put o.dst undef) w') : wpList Try.prog ops Q (o :: rest) a w := by
  obtain ⟨D, h, h1, h2⟩ := h
  refine wpList_mapUpdate_own w hg m x v 146 hop 3 2 lawI Try.underlying146 _ b n D hm h (by unfold maxLen; omega) _ _ _ hx hv (keyI hy) _ [] (plainElem_int Try.underlying2 hc.wf) fun w1 hown1 hgrow1 => ?_
  have hD : IsMap D := (h.canon lawI).elim fun es he => ⟨es, he.1⟩
  have hT : Tidy D := by
    obtain ⟨es, e, hp, _⟩ := h.entries lawI
    exact ⟨es, e, hp⟩
  have hsz := size_le_of_owns h
  refine hK w1 ⟨_, owns_tight hown1 (by rw [Maps.size_put hT, h2 y hy, hS]; simpa using hsz), fun z hz => ?_, fun z hz => ?_⟩ hgrow1
  · by_cases e : z = y
    · subst e
      rw [Maps.atKey_put_same hD (by trivial)]
      simp [upd]
    · rw [Maps.atKey_put_other (fun h => e (by injection h)), h1 z hz]
      simp [upd, e]
  · by_cases e : z = y
    · subst e
      rw [Maps.has_put_same hD (by trivial), hS]
    · rw [Maps.has_put_other (fun h => e (by injection h)), h2 z hz]

/-- An entry of a literal. -/
theorem wpList_ins (hg : o.guard = none) (m x v : Operand) (hop : o.op = Op.insert 146 m x v) (hm : a.eval m = .map (some b)) (h : MapF w b n f S) (hn : n < 1000000000) (y c : Int) (hx : a.eval x = .int .i64 y) (hv : a.eval v = .int .i64 c) (hy : W64 y) (hc : W64 c)
    (hK : ∀ w', MapF w' b (n + 1) (upd f y c) (ins S y) → w.grownBy w' (some b) → wpList Try.prog ops Q rest (a.put o.dst undef) w') : wpList Try.prog ops Q (o :: rest) a w := by
  refine wpList_plain hg fun K' hK' => ?_
  obtain ⟨D, h, h1, h2⟩ := h
  obtain ⟨w', hrun, r1, r2⟩ := h.update lawI Try.underlying146 (by unfold maxLen; omega) (keyI hy) (plainElem_int (H := Unit) Try.underlying2 hc.wf)
  unfold Oper.wp
  simp [execOp, hop, hm, hx, hv, hrun, Result.andThen]
  refine hK' _ _ (hK w' ?_ r2)
  have hD : IsMap D := (h.canon lawI).elim fun es he => ⟨es, he.1⟩
  refine ⟨_, r1, fun z hz => ?_, fun z hz => ?_⟩
  · by_cases e : z = y
    · subst e
      rw [Maps.atKey_put_same hD (by trivial)]
      simp [upd]
    · rw [Maps.atKey_put_other (fun h => e (by injection h)), h1 z hz]
      simp [upd, e]
  · by_cases e : z = y
    · subst e
      rw [Maps.has_put_same hD (by trivial)]
      simp [ins]
    · rw [Maps.has_put_other (fun h => e (by injection h)), h2 z hz]
      simp [ins, e]

/-- What a look-up gives, as an equation for a region. -/
theorem MapF.run (h : MapF w b n f S) {y : Int} (hy : W64 y) : (Instr.lookup 146 (.map (some b)) (.int .i64 y) false).run Try.prog w = .ok (.int .i64 (f y)) w := by
  obtain ⟨D, h, h1, h2⟩ := h
  obtain ⟨c, hrun, hat, _⟩ := h.lookup_int lawI Try.underlying146 Try.underlying2 (zeroI _) (keyI hy)
  have e := h1 y hy
  rw [hat] at e
  simp only [DataW.lit.injEq, Lit.int.injEq, true_and] at e
  rw [← e]
  exact hrun

/-- A range over the map is under way in the iterator r: the keys left are still to come. -/
def MapR (w : World) (b r n : Nat) (f : Int → Int) (S : Int → Bool) (left : Int → Bool) (cnt : Nat) : Prop :=
  ∃ (D : DataW Unit) (L : Lit → Bool), w.ranges Try.prog 3 (plainElem Try.prog 2) b r n D L cnt ∧
    (∀ x, W64 x → D.atKey (.int .i64 x) (.lit (.int .i64 0)) = .lit (.int .i64 (f x))) ∧ (∀ x, W64 x → Maps.has D (.int .i64 x) = S x) ∧ ∀ x, W64 x → L (.int .i64 x) = left x

section
variable {w : World} {w' : World} {r cnt : Nat} {left : Int → Bool}
theorem MapR.owns (h : MapR w b r n f S left cnt) : MapF w b n f S := by
  obtain ⟨D, L, h, h1, h2, _⟩ := h; exact ⟨D, h.owns, h1, h2⟩
theorem MapR.left_eq (h : MapR w b r n f S left cnt) : w.rangeLeft b r = cnt := by
  obtain ⟨D, L, h, _⟩ := h; exact h.left_eq
theorem MapR.ne (h : MapR w b r n f S left cnt) : r ≠ b := by
  obtain ⟨D, L, h, _⟩ := h; exact h.ne
theorem MapR.lt (h : MapR w b r n f S left cnt) : r < w.heap.size := by
  obtain ⟨D, L, h, _⟩ := h; exact h.lt
theorem MapR.kept {row : Option Nat} (h : MapR w b r n f S left cnt) (hg : w.grownBy w' row) (hb' : some b ≠ row) (hr' : some r ≠ row) : MapR w' b r n f S left cnt := by
  obtain ⟨D, L, h, h2⟩ := h; exact ⟨D, L, h.kept hg hb' hr', h2⟩
end

theorem wpList_rng (hg : o.guard = none) (m : Operand) (hop : o.op = Op.range 146 m) (hm : a.eval m = .map (some b)) (h : MapF w b n f S)
    (hK : ∀ w' cnt, cnt ≤ n → MapR w' b w.heap.size n f S S cnt → w.grownBy w' none → w'.heap.size = w.heap.size + 1 → wpList Try.prog ops Q rest (a.put o.dst (.pointer (some ⟨w.heap.size, 0, none⟩))) w') :
    wpList Try.prog ops Q (o :: rest) a w := by
  obtain ⟨D, h, h1, h2⟩ := h
  refine wpList_range_own w hg m 146 hop 3 2 lawI Try.underlying146 _ b n D hm h fun w1 hrg hg1 hs1 => ?_
  exact hK w1 _ (size_le_of_owns h) ⟨D, _, hrg, h1, h2, h2⟩ hg1 hs1

theorem wpList_nxt (hg : o.guard = none) (it : Operand) (hop : o.op = Op.next it false) {r cnt : Nat} {left : Int → Bool} (hit : a.eval it = .pointer (some ⟨r, 0, none⟩)) (h : MapR w b r n f S left cnt)
    (hDone : cnt = 0 → (∀ x, W64 x → left x = false) → wpList Try.prog ops Q rest (a.put o.dst (.tuple #[.bool false])) w)
    (hMore : ∀ (x : Int) (w' : World) (cnt' : Nat), W64 x → W64 (f x) → left x = true → S x = true → MapR w' b r n f S (but left x) cnt' → cnt' < cnt →
      w.grownBy w' (some r) → w'.heap.size = w.heap.size → (Instr.entry (.pointer (some ⟨r, 0, none⟩))).run Try.prog w' = .ok (.tuple #[.int .i64 x, .int .i64 (f x)]) w' → wpList Try.prog ops Q rest (a.put o.dst (.tuple #[.bool true, .int .i64 x, .int .i64 (f x)])) w') :
    wpList Try.prog ops Q (o :: rest) a w := by
  obtain ⟨D, L, h, h1, h2, h3⟩ := h
  refine wpList_next_ranges_ii w hg it hop 3 2 .i64 .i64 lawI Try.underlying3 Try.underlying2 b r n D L cnt hit h
    (fun hc hl => hDone hc fun x hx => by rw [← h3 x hx, hl]) ?_
  intro x c w1 cnt1 hwx hwc hlx hat hrg1 hlt hg1 hs1 hen
  have hx := W64.of hwx
  have e := h1 x hx
  rw [hat] at e
  injection e with e
  injection e with _ e
  subst e
  exact hMore x w1 cnt1 hx (W64.of hwc) (by rw [← h3 x hx, hlx]) (by rw [← h2 x hx]; exact Maps.has_true_of_atKey hat)
    ⟨D, _, hrg1, h1, h2, fun z hz => by show (L _ && !Lit.sameKey _ _) = _; rw [h3 z hz, same_int]; rfl⟩ hlt hg1 hs1 hen
end

end Go.Proofs.Ythbhengcinkepaa
