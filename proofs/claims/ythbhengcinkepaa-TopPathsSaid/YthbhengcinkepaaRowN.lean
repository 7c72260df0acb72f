/- Rows of integers (of elements of any type) that are written in place; the library's Repeat at a row of one integer. -/
import Derived.Test.YthbhengcinkepaaBoxes
import Derived.Test.YthbhengcinkepaaBitI
import Derived.Test.YthbhengcinkepaaShelf2
import Derived.Laws.CopyOwn
namespace Go.Proofs.Ythbhengcinkepaa
open Go.RowKit Go.Shelf

/-- Block g, of elements of type T, holds these integers first, and k cells in all. -/
def RowN (T : TypeId) (w : World) (g k : Nat) (zs : List Int) : Prop := ∃ cur, Box w g T cur ∧ cur.size = k ∧ zs.length ≤ k ∧ k ≤ maxLen ∧ cur.toList.take zs.length = zs.map (Value.int .i64)
/-- A slice of integers that is read and written in place: nothing is said of an empty one. -/
def RowA (T : TypeId) (w : World) (A : Option Addr) (k : Nat) (zs : List Int) : Prop := zs ≠ [] → ∃ g, A = some ⟨g, 0, none⟩ ∧ RowN T w g k zs

section
variable {T : TypeId} {X : Nat → Prop} {w w' : World} {g k : Nat} {zs : List Int}
theorem RowN.lt (h : RowN T w g k zs) : g < w.heap.size := by obtain ⟨cur, hb, _⟩ := h; exact hb.lt
theorem RowN.at_ (h : RowN T w g k zs) {j : Nat} {z : Int} (hj : zs[j]? = some z) : w.cell? ⟨g, j, none⟩ = some (.int .i64 z) := by
  obtain ⟨cur, hb, h1, h2, h3, h4⟩ := h
  have hlt : j < zs.length := (List.getElem?_eq_some_iff.1 hj).1
  rw [hb.cell j]
  have h5 : (cur.toList.take zs.length)[j]? = some (.int .i64 z) := by rw [h4, List.getElem?_map, hj]; rfl
  rw [List.getElem?_take, if_pos hlt] at h5
  simpa using h5
theorem RowN.free (h : RowN T w g k zs) (j : Nat) : w.frozen? ⟨g, j, none⟩ = false := by obtain ⟨cur, hb, _⟩ := h; exact hb.free j
theorem RowN.put (h : RowN T w g k zs) (j : Nat) (z : Int) : RowN T (w.setCell ⟨g, j, none⟩ (.int .i64 z)) g k (zs.set j z) := by
  obtain ⟨cur, hb, h1, h2, h3, h4⟩ := h
  refine ⟨_, hb.put j _, by simpa using h1, by simpa using h2, h3, ?_⟩
  rw [List.length_set, Array.toList_setIfInBounds, List.map_set, ← h4, List.take_set]
theorem RowN.drewN (h : RowN T w g k zs) (n : Nat) : RowN T (w.drewN n) g k zs := h
theorem RowN.alloc (h : RowN T w g k zs) (o : Obj) : RowN T (w.alloc o) g k zs := by
  obtain ⟨cur, hb, h1⟩ := h
  exact ⟨cur, hb.alloc o, h1⟩
theorem RowN.turn (h : RowN T w g k zs) (hT : Turn X w w') (hx : ¬ X g) : RowN T w' g k zs := by
  obtain ⟨cur, hb, h1⟩ := h
  exact ⟨cur, hb.turn hT hx, h1⟩
theorem RowN.below {B : Nat} (h : RowN T w g k zs) (hb : Below B w w') (hB : g < B) : RowN T w' g k zs := by
  obtain ⟨cur, hx, h1⟩ := h
  exact ⟨cur, hx.below hb hB, h1⟩
theorem RowN.far (h : RowN T w g k zs) {p : Addr} (hp : g ≠ p.block) (u : Value) : RowN T (w.setCell p u) g k zs := by
  obtain ⟨cur, hb, h1⟩ := h
  exact ⟨cur, hb.far hp u, h1⟩
theorem RowN.ne {T' : TypeId} {g' k' : Nat} {zs' : List Int} (h : RowN T w g k zs) (h' : RowN T' w g' k' zs') (ht : T ≠ T') : g ≠ g' := by
  obtain ⟨cur, hb, _⟩ := h
  obtain ⟨cur', hb', _⟩ := h'
  exact hb.ne hb' ht
theorem RowN.ne_box {T' : TypeId} {g' : Nat} {cs : Array Value} (h : RowN T w g k zs) (h' : Box w g' T' cs) (ht : T ≠ T') : g ≠ g' := by
  obtain ⟨cur, hb, _⟩ := h
  exact hb.ne h' ht
theorem RowN.reads (h : RowN T w g k zs) : RInts w w.heap.size (some ⟨g, 0, none⟩) zs := fun j u hu => by
  rw [List.getElem?_map] at hu
  obtain ⟨x, hx, rfl⟩ := Option.map_eq_some_iff.1 hu
  exact ⟨g, 0, rfl, h.lt, by simpa using h.at_ hx⟩
theorem RowA.reads {A : Option Addr} (h : RowA T w A k zs) : RInts w w.heap.size A zs := fun j u hu => by
  by_cases h0 : zs = []
  · subst h0; simp at hu
  · obtain ⟨g, rfl, hr⟩ := h h0
    exact hr.reads j u hu
theorem RowA.of_own {base n : Nat} {v : Value} (h : w.ownsRow base T 1 v n (zs.map (Value.int .i64))) : ∃ A k, v = .slice A zs.length k ∧ RowA T w A k zs ∧ ∀ g, A = some ⟨g, 0, none⟩ → base ≤ g := by
  have hl : zs.length = n := by have := h.1; simpa using this
  rcases h.2 with ⟨rfl, h1⟩ | ⟨g', cap, cur, e, hb, hh, h1, h2, h3, h4⟩
  · refine ⟨none, 0, by rw [hl, h1], fun h0 => ?_, fun g e => by cases e⟩
    rw [h1] at hl
    exact absurd (List.length_eq_zero_iff.1 hl) h0
  · refine ⟨_, cap, by rw [hl]; exact e, fun _ => ⟨g', rfl, cur, hh, by simpa using h3, by omega, h2, by rw [hl]; simpa using h4⟩, fun g e => ?_⟩
    have : g' = g := by injection e with e; injection e
    omega
end

theorem Mul_one_i (n : Nat) (hn : n ≤ 1000) (w : World) :
    Calls Try.prog 186 #[.int .u64 1, .int .u64 (n : Int)] w fun e w' => e = .returned (.tuple #[.int .u64 0, .int .u64 (n : Int)]) ∧ w = w' := by
  refine (Try.bits_Mul 1 n (by omega) (by omega) w).mono fun e w' ⟨h1, h2⟩ => ⟨?_, h2.symm⟩
  rw [h1]
  have e1 : 1 * n / 18446744073709551616 = 0 := by omega
  have e2 : 1 * n % 18446744073709551616 = n := by omega
  rw [e1, e2]
  rfl

def repI (n k : Nat) (z : Int) : List Value := List.replicate k (.int .i64 z) ++ List.replicate (n - k) (.int .i64 0)
theorem make_repI (n : Nat) (hn : n ≤ 1000) (z : Int) : ∀ w : World, (Instr.makeSlice 47 (.int .i64 n) (.int .i64 n)).run Try.prog w = .ok (.slice (some ⟨w.heap.size, 0, none⟩) n n) (w.alloc (.cells (repI n 0 z).toArray 3)) := by
  obtain ⟨i0, hi, hz0, hz1, hz2⟩ := info_parts (show (Try.prog.info? 3).map (fun i => (i.zero, i.size, i.bytes)) = some (some (.int .i64 0), 1, 8) from by kernel_rfl)
  intro w
  have := run_make (P := Try.prog) w 47 3 i0 (.int .i64 0) Try.underlying47 hi hz0 .i64 .i64 n n (by omega) (by omega) (by rw [hz2]; omega) (by omega)
  rw [hz1] at this
  have e : madeCells (Value.int .i64 0).cells (n * 1) = (repI n 0 z).toArray := by
    apply Array.ext_getElem?
    intro j
    by_cases hj : j < n
    · simp [madeCells, Value.cells, hj, Nat.mod_one, repI]
    · simp [madeCells, repI, hj]
  rw [Nat.mul_one] at e
  simpa [e] using this
set_option maxRecDepth 100000 in
set_option maxHeartbeats 2000000 in
theorem Repeat_int (g0 c0 n : Nat) (z : Int) (w : World) (hc : w.cell? ⟨g0, 0, none⟩ = some (.int .i64 z)) (hg0 : g0 < w.heap.size) (hn1 : 1 ≤ n) (hn : n ≤ 1000) :
    Calls Try.prog 161 #[.slice (some ⟨g0, 0, none⟩) 1 c0, .int .i64 n] w fun e w' => e = .returned (.slice (some ⟨w.heap.size, 0, none⟩) n n) ∧ Box w' w.heap.size 3 (List.replicate n (Value.int .i64 z)).toArray ∧ Below w.heap.size w w' := by
  have hsz1 : (Try.prog.info? 3).map (·.size) = some 1 := by kernel_rfl
  obtain ⟨w2, hcp, HG3, HB2⟩ : ∃ w2, (Builtin.copy_ #[47, 47] 3 #[.slice (some ⟨w.heap.size, 0, none⟩) n n, .slice (some ⟨g0, 0, none⟩) 1 c0]).run Try.prog (w.alloc (Obj.cells (repI n 0 z).toArray 3)) = .ok (.int .i64 1) w2 ∧ Hid (Box w2 w.heap.size 3 (repI n 1 z).toArray) ∧ Hid (Below w.heap.size w w2) := by
    have h1 := run_copy_row (P := Try.prog) (w.alloc (Obj.cells (repI n 0 z).toArray 3)) 47 47 3 3 w.heap.size 0 n n ⟨g0, 0, none⟩ 1 c0 (repI n 0 z).toArray 3 [Value.int .i64 z] Try.underlying47 hsz1 (Box.new _ _ _) (by simp [Nat.min_def]; omega) (fun j u hu => by
      cases j with
      | zero =>
        simp at hu
        subst hu
        exact (World.cell?_alloc_lt w _ ⟨g0, 0, none⟩ hg0).trans hc
      | succ j => simp at hu) (by simp [repI]; omega) (by simp [Value.oneCell'])
    refine ⟨_, h1, Lib.hid ?_, Lib.hid (below_setRow ((Below.refl _ w).alloc (Nat.le_refl _) _) (Nat.le_refl _) _)⟩
    have h2 := setRow_heap (w.alloc (Obj.cells (repI n 0 z).toArray 3)) w.heap.size (repI n 0 z).toArray ((repI n 0 z).toArray.toList.take 0 ++ [Value.int .i64 z] ++ (repI n 0 z).toArray.toList.drop (0 + [Value.int .i64 z].length)).toArray 3 (0, 0) (Box.new _ _ _)
    have e : ((repI n 0 z).toArray.toList.take 0 ++ [Value.int .i64 z] ++ (repI n 0 z).toArray.toList.drop (0 + [Value.int .i64 z].length)) = repI n 1 z := by
      cases n with
      | zero => omega
      | succ n => simp [repI, List.replicate_succ]
    rw [e] at h2 ⊢
    exact h2
  have hmk := make_repI n hn z
  have HM := Lib.hid (Mul_one_i n hn)
  have hni : (0 : Int) ≤ (n : Int) := by omega
  have hgt : ¬ (9223372036854775807 : Int) < (n : Int) := by omega
  clear hc
  go_enter Try.func161, Try.ntmps161
  go_wp2_with fail
  refine (HM.out _).mono ?_
  rintro e w' ⟨rfl, rfl⟩
  go_wp2_with fail
  clear hcp hmk
  go_loopg [8] n (fun g i wx => ∃ k : Nat, 1 ≤ k ∧ k ≤ n ∧ n ≤ k + g ∧ i = .int .i64 k ∧ Hid (Box wx w.heap.size 3 (repI n k z).toArray) ∧ Hid (Below w.heap.size w wx))
  case atStart => exact ⟨1, by omega, hn1, by omega, rfl, HG3, HB2⟩
  case round =>
    clear HG3 HB2
    obtain ⟨k, hk1, hkn, hkg, rfl, HG, HB⟩ := hrel
    have HG2 := HG
    have HB2 := HB
    clear HG HB
    by_cases hlt : k < n
    · obtain ⟨m, hm⟩ : ∃ m, m = Nat.min k (n - k) := ⟨_, rfl⟩
      have hm1 : 1 ≤ m ∧ m ≤ k ∧ k + m ≤ n := by rw [hm]; show 1 ≤ min k (n - k) ∧ min k (n - k) ≤ k ∧ k + min k (n - k) ≤ n; omega
      obtain ⟨w3, hcp, HG3, HB3⟩ : ∃ w3, (Builtin.copy_ #[47, 47] 3 #[.slice (some ⟨w.heap.size, k, none⟩) (n - k) (n - k), .slice (some ⟨w.heap.size, 0, none⟩) k n]).run Try.prog wr.drew = .ok (.int .i64 (m : Int)) w3 ∧ Hid (Box w3 w.heap.size 3 (repI n (k + m) z).toArray) ∧ Hid (Below w.heap.size w w3) := by
        have hb : Box wr.drew w.heap.size 3 (repI n k z).toArray := HG2.out.drewN 1
        have h1 := run_copy_row (P := Try.prog) wr.drew 47 47 3 3 w.heap.size k (n - k) (n - k) ⟨w.heap.size, 0, none⟩ k n (repI n k z).toArray 3 (List.replicate m (Value.int .i64 z)) Try.underlying47 hsz1 hb (by simp [hm]) (fun j u hu => by
          have hj : j < m := by have := (List.getElem?_eq_some_iff.1 hu).1; simpa using this
          have e : (⟨w.heap.size, 0, none⟩ : Addr).add j = ⟨w.heap.size, j, none⟩ := by cases j <;> simp [Addr.add]
          rw [e, hb.cell j]
          rw [List.getElem?_replicate, if_pos hj] at hu
          have hjk : j < k := by omega
          simp [repI, List.getElem?_append, hjk, ← hu]) (by simp [repI]; omega) (by intro x hx; have := List.eq_of_mem_replicate hx; rw [this]; simp [Value.oneCell'])
        have e1 : goInt (List.replicate m (Value.int .i64 z)).length = .int .i64 (m : Int) := by simp [goInt]
        rw [e1] at h1
        refine ⟨_, h1, Lib.hid ?_, Lib.hid (below_setRow HB2.out.drew (Nat.le_refl _) _)⟩
        have h2 := setRow_heap wr.drew w.heap.size (repI n k z).toArray ((repI n k z).toArray.toList.take k ++ List.replicate m (Value.int .i64 z) ++ (repI n k z).toArray.toList.drop (k + (List.replicate m (Value.int .i64 z)).length)).toArray 3 (0, 0) hb
        have e : ((repI n k z).toArray.toList.take k ++ List.replicate m (Value.int .i64 z) ++ (repI n k z).toArray.toList.drop (k + (List.replicate m (Value.int .i64 z)).length)) = repI n (k + m) z := by
          apply List.ext_getElem?
          intro j
          simp only [repI, List.length_replicate, List.append_assoc]
          by_cases h1 : j < k
          · simp [List.getElem?_append, h1, show j < k + m by omega]
          · by_cases h2 : j < k + m
            · simp [List.getElem?_append, h1, h2, show j - k < m by omega]
            · simp [List.getElem?_append, h1, h2, List.getElem?_replicate, List.getElem?_drop, show ¬ j - k < m by omega, show ¬ k + m + (j - k - m) < k by omega, show (k + m + (j - k - m) - k < n - k) = (j - (k + m) < n - (k + m)) by simp; omega]
        rw [e] at h2 ⊢
        exact h2
      have hkni : (k : Int) < (n : Int) := by omega
      have hk0 : (0 : Int) ≤ (k : Int) := by omega
      have hkn2 : (k : Int) ≤ (n : Int) := by omega
      have hne : ¬ k = n := by omega
      clear hm HG2 HB2
      go_wp2_with fail
      have hkw : IntKind.i64.wrap ((k : Int) + (m : Int)) = (k : Int) + (m : Int) := IntWalk.i64_in _ (by omega)
      go_region_held3 (fun _ => True ∧ True) (exact ⟨trivial, trivial⟩) (fail)
      go_wp2_with fail
      clear hkw
      go_roundg (gk - 1)
      case measure => omega
      case rel => exact ⟨k + m, by omega, by omega, by omega, by go_num, HG3, HB3⟩
    · obtain rfl : k = n := by omega
      have HE := Lib.hid (show repI k k z = List.replicate k (Value.int .i64 z) by simp [repI])
      go_wp2_with fail
      go_ret
      refine ⟨rfl, ?_, HB2.out⟩
      rw [← HE.out]
      exact HG2.out


set_option maxRecDepth 100000 in
set_option maxHeartbeats 1000000 in
theorem Repeat_int0 (g0 c0 : Nat) (w : World) (_hg0 : g0 < w.heap.size) :
    Calls Try.prog 161 #[.slice (some ⟨g0, 0, none⟩) 1 c0, .int .i64 0] w fun e w' => e = .returned (.slice (some ⟨w.heap.size, 0, none⟩) 0 0) ∧ Below w.heap.size w w' := by
  have hsz1 : (Try.prog.info? 3).map (·.size) = some 1 := by kernel_rfl
  obtain ⟨w2, hcp, HB2⟩ : ∃ w2, (Builtin.copy_ #[47, 47] 3 #[.slice (some ⟨w.heap.size, 0, none⟩) 0 0, .slice (some ⟨g0, 0, none⟩) 1 c0]).run Try.prog (w.alloc (Obj.cells #[] 3)) = .ok (.int .i64 0) w2 ∧ Hid (Below w.heap.size w w2) := by
    have h1 := run_copy_row (P := Try.prog) (w.alloc (Obj.cells #[] 3)) 47 47 3 3 w.heap.size 0 0 0 ⟨g0, 0, none⟩ 1 c0 #[] 3 [] Try.underlying47 hsz1 (Box.new _ _ _) (by simp) (fun j u hu => by simp at hu) (by simp) (by simp)
    exact ⟨_, h1, Lib.hid (below_setRow ((Below.refl _ w).alloc (Nat.le_refl _) _) (Nat.le_refl _) _)⟩
  have hmk : ∀ w : World, (Instr.makeSlice 47 (.int .i64 0) (.int .i64 0)).run Try.prog w = .ok (.slice (some ⟨w.heap.size, 0, none⟩) 0 0) (w.alloc (.cells #[] 3)) := fun w => make_repI 0 (by omega) 0 w
  have HM := Lib.hid (Mul_one_i 0 (by omega))
  go_enter Try.func161, Try.ntmps161
  go_wp2_with fail
  refine (HM.out _).mono ?_
  rintro e w' ⟨rfl, rfl⟩
  go_wp2_with fail
  go_loopw [8] (fun i wx => i = .int .i64 0 ∧ wx = w2) (fun _ _ => 0)
  case atStart => exact ⟨rfl, rfl⟩
  case round =>
    obtain ⟨rfl, rfl⟩ := hrel
    go_wp2_with fail
    go_ret
    exact ⟨rfl, HB2.out⟩
end Go.Proofs.Ythbhengcinkepaa
