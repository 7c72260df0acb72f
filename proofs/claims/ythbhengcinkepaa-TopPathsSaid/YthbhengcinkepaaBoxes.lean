/- Words for memory that is written: a block that is known whole, a row of integers of one's own, and what turned between two worlds; the append of one integer to such a row. -/
import Derived.Test.YthbhengcinkepaaMem
import Derived.ArgAppend
import Derived.Deep.AppendLies
import Derived.Deep.RegionHeld3
import Derived.Deep.DeepCutAuto
import Derived.StillTailTactics
namespace Go.Proofs.Ythbhengcinkepaa
open Go.RowKit

/-- Block g is just these cells, of this type, none frozen. -/
def Box (w : World) (g : Nat) (t : TypeId) (cs : Array Value) : Prop := w.heap[g]? = some (.cells cs t (0, 0))

/-- Between a and w nothing that was there has turned but blocks of X. -/
def Turn (X : Nat → Prop) (a w : World) : Prop := Below 0 a w ∧ ∀ i, i < a.heap.size → ¬ X i → w.heap[i]? = a.heap[i]?

section
variable {X Y : Nat → Prop} {a b w w' : World}
theorem Turn.refl (X : Nat → Prop) (w : World) : Turn X w w := ⟨Below.refl _ _, fun _ _ _ => rfl⟩
theorem Turn.size (h : Turn X a w) : a.heap.size ≤ w.heap.size := h.1.size
theorem Turn.trans (h : Turn X a b) (k : Turn Y b w) (hxy : ∀ i, i < a.heap.size → Y i → X i) : Turn X a w :=
  ⟨h.1.trans k.1, fun i hi hx => (k.2 i (Nat.lt_of_lt_of_le hi h.size) (fun hy => hx (hxy i hi hy))).trans (h.2 i hi hx)⟩
theorem Turn.imp (h : Turn X a w) (hxy : ∀ i, i < a.heap.size → X i → Y i) : Turn Y a w := ⟨h.1, fun i hi hy => h.2 i hi (fun hx => hy (hxy i hi hx))⟩
theorem Turn.alloc (h : Turn X a w) (o : Obj) : Turn X a (w.alloc o) :=
  ⟨h.1.alloc (Nat.zero_le _) o, fun i hi hx => (Below.heap_alloc w o i (Nat.lt_of_lt_of_le hi h.size)).trans (h.2 i hi hx)⟩
theorem Turn.drewN (h : Turn X a w) (n : Nat) : Turn X a (w.drewN n) := ⟨⟨h.1.os, h.1.tape, h.1.output, h.1.size, h.1.block⟩, h.2⟩
theorem Turn.setCell (h : Turn X a w) {p : Addr} (hp : X p.block ∨ a.heap.size ≤ p.block) (u : Value) : Turn X a (w.setCell p u) :=
  ⟨h.1.setCell (Nat.zero_le _) u, fun i hi hx => (Below.heap_setCell w p u i (by
    rintro rfl
    rcases hp with hp | hp
    · exact hx hp
    · omega)).trans (h.2 i hi hx)⟩
theorem Turn.grown {row : Option Nat} (h : Turn X a w) (hg : w.grownBy w' row) (hr : ∀ k, row = some k → X k ∨ a.heap.size ≤ k) : Turn X a w' :=
  ⟨h.1.grown hg (Nat.zero_le _) (fun _ _ => Nat.zero_le _), fun i hi hx => (hg.block i (Nat.lt_of_lt_of_le hi h.size) (fun e => by
    rcases hr i e.symm with h1 | h1
    · exact hx h1
    · omega)).trans (h.2 i hi hx)⟩
theorem Turn.below {B : Nat} (h : Turn X a w) (hb : Below B w w') (hB : a.heap.size ≤ B) : Turn X a w' :=
  ⟨h.1.trans (hb.mono (Nat.zero_le _)), fun i hi hx => (hb.block i (by omega)).trans (h.2 i hi hx)⟩
theorem Turn.toBelow {B : Nat} (h : Turn X a w) (hB : B ≤ a.heap.size) (hX : ∀ i, i < B → ¬ X i) : Below B a w := ⟨h.1.os, h.1.tape, h.1.output, h.1.size, fun i hi => h.2 i (by omega) (hX i hi)⟩
theorem Turn.toGrown {r : Option Nat} (h : Turn X a w) (hX : ∀ i, i < a.heap.size → X i → some i = r) : a.grownBy w r := ⟨h.1.os, h.1.tape, h.1.output, h.1.size, fun i hi hne => h.2 i hi (fun hx => hne (hX i hi hx))⟩
theorem Turn.cell (h : Turn X a w) {p : Addr} (hp : p.block < a.heap.size) (hx : ¬ X p.block) : w.cell? p = a.cell? p := World.cell?_of_block (h.2 p.block hp hx)
end

section
variable {X : Nat → Prop} {w w' : World} {g : Nat} {t : TypeId} {cs : Array Value}
theorem Box.lt (h : Box w g t cs) : g < w.heap.size := by
  rcases Nat.lt_or_ge g w.heap.size with h1 | h1
  · exact h1
  · unfold Box at h; rw [Array.getElem?_eq_none h1] at h; cases h
theorem Box.cell (h : Box w g t cs) (i : Nat) : w.cell? ⟨g, i, none⟩ = cs[i]? := cell_of_row w g i cs t (0, 0) h
theorem Box.free (h : Box w g t cs) (i : Nat) : w.frozen? ⟨g, i, none⟩ = false := by
  unfold Box at h
  simp [World.frozen?, h]
theorem Box.new (w : World) (t : TypeId) (cs : Array Value) : Box (w.alloc (.cells cs t)) w.heap.size t cs := heap_alloc_new w _
theorem Box.alloc (h : Box w g t cs) (o : Obj) : Box (w.alloc o) g t cs := (Below.heap_alloc w o g h.lt).trans h
theorem Box.drewN (h : Box w g t cs) (n : Nat) : Box (w.drewN n) g t cs := h
theorem Box.far (h : Box w g t cs) {p : Addr} (hp : g ≠ p.block) (u : Value) : Box (w.setCell p u) g t cs := (Below.heap_setCell w p u g hp).trans h
theorem Box.put (h : Box w g t cs) (i : Nat) (u : Value) : Box (w.setCell ⟨g, i, none⟩ u) g t (cs.setIfInBounds i u) := by
  unfold Box at h ⊢
  simp [World.setCell, Array.getElem?_modify, h]
theorem Box.turn (h : Box w g t cs) (hT : Turn X w w') (hx : ¬ X g) : Box w' g t cs := (hT.2 g h.lt hx).trans h
theorem Box.grown {row : Option Nat} (h : Box w g t cs) (hg : w.grownBy w' row) (hr : some g ≠ row) : Box w' g t cs := (hg.block g h.lt hr).trans h
theorem Box.below {B : Nat} (h : Box w g t cs) (hb : Below B w w') (hB : g < B) : Box w' g t cs := (hb.block g hB).trans h
theorem Box.ne {g' : Nat} {t' : TypeId} {cs' : Array Value} (h : Box w g t cs) (h' : Box w g' t' cs') (hne : t ≠ t') : g ≠ g' := by
  rintro rfl
  unfold Box at h h'
  rw [h] at h'
  injection h' with h'
  injection h' with _ ht
  exact hne ht
end

/-- Block g is a row of integers of one's own: the first of its k cells are zs. -/
def OwnR (w : World) (g k : Nat) (zs : List Int) : Prop := w.ownsRow 0 3 1 (.slice (some ⟨g, 0, none⟩) zs.length k) zs.length (zs.map (Value.int .i64))

section
variable {X : Nat → Prop} {w w' : World} {g k : Nat} {zs : List Int}
theorem OwnR.box (h : OwnR w g k zs) : ∃ cur, Box w g 3 cur ∧ cur.size = k ∧ zs.length ≤ k ∧ k ≤ maxLen ∧ cur.toList.take zs.length = zs.map (Value.int .i64) := by
  rcases h.2 with ⟨h1, _⟩ | ⟨g', cap, cur, e, _, hh, h1, h2, h3, h4⟩
  · cases h1
  · cases e
    exact ⟨cur, hh, by simpa using h3, h1, h2, by simpa using h4⟩
theorem OwnR.of_box {cur : Array Value} (h : Box w g 3 cur) (h1 : cur.size = k) (h2 : zs.length ≤ k) (h3 : k ≤ maxLen) (h4 : cur.toList.take zs.length = zs.map (Value.int .i64)) : OwnR w g k zs :=
  ⟨by simp, .inr ⟨g, k, cur, rfl, Nat.zero_le _, h, h2, h3, by simpa using h1, by simpa using h4⟩⟩
theorem OwnR.lt (h : OwnR w g k zs) : g < w.heap.size := by obtain ⟨cur, hb, _⟩ := h.box; exact hb.lt
theorem OwnR.cap (h : OwnR w g k zs) : zs.length ≤ k := by obtain ⟨cur, _, _, h, _⟩ := h.box; exact h
theorem OwnR.ne_box {g' : Nat} {t' : TypeId} {cs' : Array Value} (h : OwnR w g k zs) (h' : Box w g' t' cs') (hne : 3 ≠ t') : g ≠ g' := by
  obtain ⟨cur, hb, _⟩ := h.box; exact hb.ne h' hne
theorem OwnR.turn (h : OwnR w g k zs) (hT : Turn X w w') (hx : ¬ X g) : OwnR w' g k zs := by
  obtain ⟨cur, hb, h1, h2, h3, h4⟩ := h.box
  exact OwnR.of_box (hb.turn hT hx) h1 h2 h3 h4
theorem OwnR.alloc (h : OwnR w g k zs) (o : Obj) : OwnR (w.alloc o) g k zs := World.ownsRow.alloc h o
theorem OwnR.drewN (h : OwnR w g k zs) (n : Nat) : OwnR (w.drewN n) g k zs := h
theorem OwnR.drew (h : OwnR w g k zs) : OwnR w.drew g k zs := h
theorem OwnR.below {B : Nat} (h : OwnR w g k zs) (hb : Below B w w') (hg : g < B) : OwnR w' g k zs := by
  obtain ⟨cur, hx, h1, h2, h3, h4⟩ := h.box
  exact OwnR.of_box (hx.below hb hg) h1 h2 h3 h4
theorem OwnR.far (h : OwnR w g k zs) {p : Addr} (hp : g ≠ p.block) (u : Value) : OwnR (w.setCell p u) g k zs := by
  obtain ⟨cur, hb, h1, h2, h3, h4⟩ := h.box
  exact OwnR.of_box (hb.far hp u) h1 h2 h3 h4
theorem OwnR.grown {row : Option Nat} (h : OwnR w g k zs) (hg : w.grownBy w' row) (hr : some g ≠ row) : OwnR w' g k zs := by
  obtain ⟨cur, hb, h1, h2, h3, h4⟩ := h.box
  exact OwnR.of_box (hb.grown hg hr) h1 h2 h3 h4
theorem OwnR.at_ (h : OwnR w g k zs) {j : Nat} {z : Int} (hj : zs[j]? = some z) : w.cell? ⟨g, j, none⟩ = some (.int .i64 z) := by
  have hlt : j < zs.length := (List.getElem?_eq_some_iff.1 hj).1
  rw [h.cellAt j (by omega), List.getElem?_map, hj]
  rfl
theorem OwnR.pre (h : OwnR w g k zs) {n : Nat} : OwnR w g k (zs.take n) := by
  obtain ⟨cur, hb, h1, h2, h3, h4⟩ := h.box
  refine OwnR.of_box hb h1 (by simp; omega) h3 ?_
  have e : (zs.take n).length ≤ zs.length := by simp; omega
  rw [List.length_take, ← List.take_take, h4, List.map_take]
theorem OwnR.init {x : Int} (h : OwnR w g k (zs ++ [x])) : OwnR w g k zs := by
  have := h.pre (n := zs.length)
  rwa [List.take_left' rfl] at this
theorem OwnR.reads (h : OwnR w g k zs) : RInts w w.heap.size (some ⟨g, 0, none⟩) zs := fun j u hu => by
  rw [List.getElem?_map] at hu
  obtain ⟨x, hx, rfl⟩ := Option.map_eq_some_iff.1 hu
  exact ⟨g, 0, rfl, h.lt, by simpa using h.at_ hx⟩
theorem OwnR.of_own {base n : Nat} {v : Value} (h : w.ownsRow base 3 1 v n (zs.map (Value.int .i64))) (hpos : 1 ≤ zs.length) : ∃ g k, v = .slice (some ⟨g, 0, none⟩) zs.length k ∧ base ≤ g ∧ OwnR w g k zs := by
  have hl : zs.length = n := by have := h.1; simpa using this
  rcases h.2 with ⟨_, h1⟩ | ⟨g', cap, cur, e, hb, hh, h1, h2, h3, h4⟩
  · omega
  · exact ⟨g', cap, by rw [hl]; exact e, hb, OwnR.of_box hh (by simpa using h3) (by omega) h2 (by rw [hl]; simpa using h4)⟩
end

theorem bg {w w' : World} (h : Below w.heap.size w w') : w.grownBy w' none := ⟨h.os, h.tape, h.output, h.size, fun i hi _ => h.block i hi⟩
theorem own_below {w w' : World} {base n sz : Nat} {e : TypeId} {v : Value} {xs : List Value} (h : w.ownsRow base e sz v n xs) (hb : Below w.heap.size w w') : w'.ownsRow base e sz v n xs :=
  h.kept (bg hb) (by cases v.ownBlock <;> simp)
theorem bytes48 {n : Nat} (h : n ≤ 1000000) : (n + 1) * 48 ≤ 140737488355328 := Nat.le_trans (Nat.mul_le_mul_right 48 (Nat.succ_le_succ h)) (by decide)

theorem below_undrew {w w1 : World} (h : Below w.drew.heap.size w.drew w1) : Below w.heap.size w w1 := ⟨h.os, h.tape, h.output, h.size, h.block⟩
theorem done_chain2 {w w1 w2 : World} (o : Obj) (ha : Below w.heap.size w w1) (hb : Below w1.heap.size w1 w2) : ∀ b, b < w.heap.size → (w2.alloc o).heap[b]? = w.heap[b]? := fun b h1 => by
  have h3 := ha.size
  have h4 := hb.size
  rw [Below.heap_alloc w2 o b (by omega), hb.block b (by omega), ha.block b h1]
theorem done_chain {w w1 w2 w3 : World} {o : Obj} {r : Option Nat} (ha : Below w.heap.size w w1) (hb : Below w1.heap.size w1 w2) (hg : (w2.alloc o).grownBy w3 r) : ∀ b, b < w.heap.size → r ≠ some b → w3.heap[b]? = w.heap[b]? := fun b h1 h2 => by
  have h3 := ha.size
  have h4 := hb.size
  rw [hg.block b (by simp; omega) (Ne.symm h2), Below.heap_alloc w2 o b (by omega), hb.block b (by omega), ha.block b h1]

theorem Try.info3 : (Try.prog.info? 3).map (fun i => (i.zero, i.size, i.bytes)) = some (some (.int .i64 0), 1, 8) := by kernel_rfl

/-- The append of one integer to a row of one's own: it lies in the row, or in a new block and nothing has turned. -/
theorem wpList_app1 (w : World) {ops : Array Oper} {rest : List Oper} {o : Oper} {a : Act} {Q : Exit → Act → World → Prop} (hg : o.guard = none) (s x : Operand)
    (hop : o.op = Op.call { callee := Callee.builtin Builtin.append, args := #[s, x], argTypes := #[47, 47] }) {g k : Nat} {zs : List Int} (h : OwnR w g k zs) (hs : a.eval s = .slice (some ⟨g, 0, none⟩) zs.length k)
    (ad : Nat) (c : Nat) (y : Int) (hx : a.eval x = .slice (some ⟨ad, 0, none⟩) 1 c) (hc : w.cell? ⟨ad, 0, none⟩ = some (.int .i64 y)) (hl : zs.length ≤ 1000000)
    (hK : ∀ (g' k' : Nat) (w' : World), OwnR w' g' k' (zs ++ [y]) → (g' = g ∧ k' = k ∧ w.grownBy w' (some g) ∨ w.heap.size ≤ g' ∧ w.grownBy w' none) → wpList Try.prog ops Q rest (a.put o.dst (.slice (some ⟨g', 0, none⟩) (zs.length + 1) k')) w') :
    wpList Try.prog ops Q (o :: rest) a w := by
  obtain ⟨i0, hi, hz0, hz1, hz2⟩ := info_parts Try.info3
  have hmap : zs.map (Value.int .i64) ++ [Value.int .i64 y] = (zs ++ [y]).map (Value.int .i64) := by simp
  have hnew : ∀ (j : Nat) (u : Value), [Value.int .i64 y][j]? = some u → w.cell? ((⟨ad, 0, none⟩ : Addr).add j) = some u := fun j u hu => by
    cases j with
    | zero => simp at hu; subst hu; simpa [Addr.add] using hc
    | succ j => simp at hu
  by_cases hlt : zs.length + 1 ≤ k
  · refine wpList_append_fits w hg s x 47 hop 0 3 i0 1 Try.underlying47 hi hz1 g zs.length k _ hs h ⟨ad, 0, none⟩ 1 c [.int .i64 y] hx rfl hnew (by simp [Value.oneCell']) hlt fun w' h1 h2 => ?_
    refine hK g k w' ?_ (.inl ⟨rfl, rfl, h2⟩)
    rw [hmap] at h1
    unfold OwnR
    simpa using h1
  · have hcap := h.cap
    have hold : ∀ b : Addr, some (⟨g, 0, none⟩ : Addr) = some b → ∀ (j : Nat) (u : Value), (zs.map (Value.int .i64))[j]? = some u → w.cell? (b.add j) = some u := by
      intro b hb j u hu
      cases hb
      rw [List.getElem?_map] at hu
      obtain ⟨z, hz, rfl⟩ := Option.map_eq_some_iff.1 hu
      have e : (⟨g, 0, none⟩ : Addr).add j = ⟨g, j, none⟩ := by cases j <;> simp [Addr.add]
      rw [e]
      exact h.at_ hz
    refine wpList_append_grows w hg s x 47 hop 3 i0 (.int .i64 0) 1 8 Try.underlying47 hi hz0 hz1 hz2 rfl (by omega) _ zs.length k (zs.map (Value.int .i64)) hs (fun e => by cases e) (by simp)
      hold
      ⟨ad, 0, none⟩ 1 c [.int .i64 y] hx rfl hnew (by simp [Value.oneCell']) (by omega) (by unfold maxLen; omega) (by omega) fun v' w' h1 h2 => ?_
    rw [hmap] at h1
    obtain ⟨g', k', rfl, hb, hown⟩ := OwnR.of_own h1 (by simp)
    have := hK g' k' w' hown (.inr ⟨hb, h2⟩)
    simpa using this

theorem len8 {n : Nat} (h : n ≤ 1000000) : n * 8 ≤ 140737488355328 := Nat.le_trans (Nat.mul_le_mul_right 8 h) (by decide)
end Go.Proofs.Ythbhengcinkepaa
