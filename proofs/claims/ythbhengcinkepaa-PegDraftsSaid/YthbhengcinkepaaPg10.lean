/- All jumps of the lines, rising. -/
import Derived.Test.YthbhengcinkepaaPg8
import Derived.Test.YthbhengcinkepaaShelf5
import Derived.Sort.LotA
namespace Go.Proofs.Ythbhengcinkepaa
open Go.RowKit Lamp Go.Sort Go.Shelf

def encT (x : Tri) : List Value := [.int .i64 x.1, .int .i64 x.2.1, .int .i64 x.2.2]
theorem encT_len (x : Tri) : (encT x).length = 3 := rfl
theorem triV_enc (l : List Tri) : triV l = l.flatMap encT := rfl
/-- The cells of triples one by one. -/
theorem triV_cell {l : List Tri} {j : Nat} (h : j < l.length * 3) : (triV l)[j]? = (encT (l.getD (j / 3) (0, 0, 0)))[j % 3]? := by
  have hi : j / 3 < l.length := by omega
  have h0 : l[j / 3]? = some (l.getD (j / 3) (0, 0, 0)) := by rw [List.getD_eq_getElem?_getD, List.getElem?_eq_getElem hi]; rfl
  obtain ⟨h1, h2, h3⟩ := triV_at l (j / 3) _ h0
  have hj : j = 3 * (j / 3) + j % 3 := by omega
  have hm : j % 3 = 0 ∨ j % 3 = 1 ∨ j % 3 = 2 := by omega
  rcases hm with hm | hm | hm
  · rw [hm] at hj ⊢; rw [Nat.add_zero] at hj; rw [← hj] at h1; rw [h1]; rfl
  · rw [hm] at hj ⊢; rw [← hj] at h2; rw [h2]; rfl
  · rw [hm] at hj ⊢; rw [← hj] at h3; rw [h3]; rfl
theorem ltOf_cmp (x y : Tri) : ltOf cmpT x y = ltT x y := cmpT_neg x y
theorem ltT_iff {x y : Tri} : ltT x y = true ↔ x.1 < y.1 ∨ x.1 = y.1 ∧ (x.2.1 < y.2.1 ∨ x.2.1 = y.2.1 ∧ x.2.2 < y.2.2) := by
  unfold ltT
  simp only [Bool.or_eq_true, Bool.and_eq_true, decide_eq_true_eq]
theorem ltT_no {x y : Tri} : ltT x y = false ↔ ¬ (x.1 < y.1 ∨ x.1 = y.1 ∧ (x.2.1 < y.2.1 ∨ x.2.1 = y.2.1 ∧ x.2.2 < y.2.2)) := by
  rw [← ltT_iff]; simp
theorem ltT_swo : SWO (ltOf cmpT) where
  irrefl x := by rw [ltOf_cmp, ltT_no]; omega
  trans x y z h1 h2 := by rw [ltOf_cmp, ltT_iff] at *; omega
  ntrans x y z h1 h2 := by rw [ltOf_cmp, ltT_no] at *; omega
theorem ltT_total (x y : Tri) (h1 : ltOf cmpT x y = false) (h2 : ltOf cmpT y x = false) : x = y := by
  rw [ltOf_cmp, ltT_no] at h1 h2
  obtain ⟨a, b, c⟩ := x
  obtain ⟨d, e, f⟩ := y
  simp only at h1 h2
  have h3 : a = d := by omega
  have h4 : b = e := by omega
  have h5 : c = f := by omega
  rw [h3, h4, h5]

/-- Both jumps of each line; all of them, rising. -/
def bothL (l : List Tri) : List Tri := l.flatMap fun e => [e, (e.2.2, e.2.1, e.1)]
def jumpsL (l : List Tri) : List Tri := (bothL l).mergeSort fun x y => !ltT y x
theorem bothL_len (l : List Tri) : (bothL l).length = 2 * l.length := by
  induction l with
  | nil => rfl
  | cons a l ih => simp [bothL] at ih ⊢; omega
theorem jumpsL_len (l : List Tri) : (jumpsL l).length = 2 * l.length := by
  unfold jumpsL
  rw [List.length_mergeSort, bothL_len]
theorem jumpsL_mem {l : List Tri} {x : Tri} : x ∈ jumpsL l ↔ x ∈ bothL l := by
  unfold jumpsL; exact List.mem_mergeSort
theorem bothL_mem {l : List Tri} {x : Tri} : x ∈ bothL l ↔ ∃ e ∈ l, x = e ∨ x = (e.2.2, e.2.1, e.1) := by
  unfold bothL
  simp only [List.mem_flatMap, List.mem_cons, List.not_mem_nil, or_false]
theorem jumpsL_ok {n : Nat} {l : List Tri} (h : LinesOk n l) : LinesOk n (jumpsL l) := fun x hx => by
  rw [jumpsL_mem, bothL_mem] at hx
  obtain ⟨e, he, hx⟩ := hx
  have h1 := h e he
  rcases hx with rfl | rfl
  · exact h1
  · obtain ⟨a, b, c, d, f, g, h, i, j⟩ := h1
    exact ⟨f, g, c, d, a, b, Ne.symm j, Ne.symm i, Ne.symm h⟩
theorem bothL_take (l : List Tri) (k : Nat) (e : Tri) (h : l[k]? = some e) : bothL (l.take (k + 1)) = bothL (l.take k) ++ [e, (e.2.2, e.2.1, e.1)] := by
  have h2 := List.getElem?_eq_some_iff.1 h
  unfold bothL
  rw [List.take_succ_eq_append_getElem h2.1, h2.2, List.flatMap_append]; simp

theorem Try.infoJ : (Try.prog.info? 105).map (fun i => (i.zero, i.size, i.bytes)) = some (some (.agg #[.int .i64 0, .int .i64 0, .int .i64 0]), 3, 24) := by kernel_rfl
/-- The append of one jump to a row of one's own. -/
theorem wpList_addJ (w : World) {ops : Array Oper} {rest : List Oper} {o : Oper} {a : Act} {Q : Exit → Act → World → Prop} (hg : o.guard = none) (s x : Operand)
    (hop : o.op = Op.call { callee := Callee.builtin Builtin.append, args := #[s, x], argTypes := #[102, 102] }) {base : Nat} {v : Value} {l : List Tri} (h : OwnT 105 w base v l) (hs : a.eval s = v)
    (ad c : Nat) (p q r : Int) (hx : a.eval x = .slice (some ⟨ad, 0, none⟩) 1 c) (hb : Box w ad 105 #[.int .i64 p, .int .i64 q, .int .i64 r]) (hl : l.length ≤ 1000000) (hbase : base ≤ w.heap.size)
    (hK : ∀ (v' : Value) (w' : World), OwnT 105 w' base v' (l ++ [(p, q, r)]) → w.grownBy w' v.ownBlock → wpList Try.prog ops Q rest (a.put o.dst v') w') :
    wpList Try.prog ops Q (o :: rest) a w := by
  obtain ⟨i0, hi, hz0, hz1, hz2⟩ := info_parts Try.infoJ
  refine wpList_append_own w hg s x 102 hop base 105 i0 (.agg #[.int .i64 0, .int .i64 0, .int .i64 0]) 3 24 Try.underlying102 hi hz0 hz1 hz2 rfl (by decide) v l.length (triV l) hs h ⟨ad, 0, none⟩ 1 c [.int .i64 p, .int .i64 q, .int .i64 r] hx rfl (World.news_of_block (cs := #[.int .i64 p, .int .i64 q, .int .i64 r]) (t := 105) (fr := (0, 0)) hb) (by simp [Value.oneCell']) (by unfold maxLen; omega) (by omega) hbase ?_
  intro v' w' h1 h2 _
  exact hK v' w' (OwnT.add h1) h2

theorem encT_at (x : Tri) {m : Nat} (h : m < 3) : (encT x)[m]? = some (encT x)[m]! := by
  have hm : m = 0 ∨ m = 1 ∨ m = 2 := by omega
  rcases hm with rfl | rfl | rfl <;> rfl
theorem grownBy_sortK {w : World} {g n : Nat} {os : Array Obj} (d : Array Tri) : w.grownBy (sortWorldK encT 3 w g 0 n d os) (some g) := by
  unfold sortWorldK putRowK
  refine ⟨rfl, rfl, rfl, by simp, fun k hk hne => ?_⟩
  rw [heap_grow_old _ _ (by simpa using hk)]
  have : g ≠ k := fun e => hne (by rw [e])
  simp [putRow, mapBlock, Sort.ahead, Array.getElem?_modify, this]
theorem Try.jumpAgg (w : World) : (isAgg 105).run Try.prog w = .ok true w := by kernel_rfl
theorem Try.jumpSize (w : World) : (Go.sizeOf 105).run Try.prog w = .ok 3 w := by kernel_rfl
/-- The sort of a row of jumps of one's own. -/
theorem SortFunc_any (base : Nat) (v : Value) (l : List Tri) (w : World) (h : OwnT 105 w base v l) (hl : l.length ≤ 1000000) :
    Calls Try.prog 99 #[v, .func (.func 100) #[] #[]] w fun e w' => e = .returned (.tuple #[]) ∧ (∃ A c, v = .slice A l.length c ∧ RTri w' w'.heap.size A (l.mergeSort fun x y => !ltT y x)) ∧ Below base w w' := by
  rcases h.2 with ⟨rfl, h1⟩ | ⟨g, cap, cur, rfl, hb, hh, h2, h3, h4⟩
  · have hnil : l = [] := List.length_eq_zero_iff.1 h1
    subst hnil
    have hcon := AnyF.slices_SortFunc_none Try.sortJ none 0 (.func (.func 100) #[] #[]) w
    change Calls Try.prog 99 _ _ _ at hcon
    refine hcon.mono ?_
    rintro e w' ⟨rfl, rfl⟩
    exact ⟨rfl, ⟨none, 0, rfl, by rw [List.mergeSort_nil]; exact RTri.nil_⟩, Below.refl _ _⟩
  · have hbx : Box w g 105 cur := hh
    have eg : ∀ args w, (callFunc 100 args).run Try.prog w = .ok (.enter 100 args) w := enters_of Try.func100 (by kernel_rfl) rfl
    have hH : HoldsK encT 3 w g 0 l.toArray := by
      intro j hj
      rw [size_flatK] at hj
      have hj : j < l.length * 3 := by simpa using hj
      refine ⟨?_, hbx.free _⟩
      rw [get_flatK _ _ _ _ (by simpa using hj)]
      obtain ⟨A, c, e1, hr⟩ := h.reads
      cases e1
      have h5 := triV_cell hj
      rw [encT_at _ (Nat.mod_lt j (by decide))] at h5
      obtain ⟨b, o, e2, _, h6⟩ := hr j _ h5
      cases e2
      rw [h6]
      have hi : j / 3 < l.length := by omega
      simp [List.getD_eq_getElem?_getD, hi]
    have hcon := AnyQ.slices_SortFunc_total Try.sortJ 3 Try.jumpAgg Try.jumpSize encT encT_len (fun x v hv => by simp [encT] at hv; rcases hv with rfl | rfl | rfl <;> rfl) cmpT ltT_swo 100 #[] g 0 cap l.toArray w eg (fun m os dk _ x y => closure_any x y _) hH hbx.lt (by simp; omega) ltT_total
    change Calls Try.prog 99 _ _ _ at hcon
    rw [List.size_toArray] at hcon
    refine hcon.mono ?_
    rintro e w' ⟨rfl, n, os, rfl⟩
    have hfn : (fun x y => !ltOf cmpT y x) = fun x y => !ltT y x := by funext x y; rw [ltOf_cmp]
    rw [hfn]
    obtain ⟨s, hs⟩ : ∃ s, (l.mergeSort fun x y => !ltT y x) = s := ⟨_, rfl⟩
    have hsl : s.length = l.length := by rw [← hs, List.length_mergeSort]
    rw [hs]
    have hH2 : HoldsK encT 3 (sortWorldK encT 3 w g 0 n s.toArray os) g 0 s.toArray :=
      holdsK_grow _ _ _ _ _ _ _ (by show g < (putRowK encT 3 (Go.Sort.ahead w n) g 0 s.toArray).heap.size; unfold putRowK; rw [size_putRow]; exact hbx.lt) (holdsK_putRowK _ _ _ _ _ l.toArray _ (holdsK_ahead _ _ _ n _ _ _ hH) (by simp [hsl]))
    have hg : w.grownBy (sortWorldK encT 3 w g 0 n s.toArray os) (some g) := grownBy_sortK s.toArray
    refine ⟨rfl, ⟨some ⟨g, 0, none⟩, cap, rfl, fun j u hu => ?_⟩, (Below.refl base w).grown hg (by have := hbx.lt; omega) (fun k e => by cases e; exact hb)⟩
    have hj : j < s.length * 3 := by
      have := (List.getElem?_eq_some_iff.1 hu).1
      rwa [triV_len] at this
    have h7 := (hH2 j (by rw [size_flatK]; simpa using hj)).1
    rw [get_flatK _ _ _ _ (by simpa using hj)] at h7
    refine ⟨g, 0, rfl, Nat.lt_of_lt_of_le hbx.lt hg.size, ?_⟩
    rw [h7, ← hu, triV_cell hj, encT_at _ (Nat.mod_lt j (by decide))]
    have hi : j / 3 < s.length := by omega
    simp [List.getD_eq_getElem?_getD, hi]
end Go.Proofs.Ythbhengcinkepaa
