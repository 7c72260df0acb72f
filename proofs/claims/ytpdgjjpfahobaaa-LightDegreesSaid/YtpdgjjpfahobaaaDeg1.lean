/- The statements' functions polynomial and degree: the coefficients of powers, and the greatest power. -/
import Derived.Test.YtpdgjjpfahobaaaGcdP
import Derived.Test.YtpdgjjpfahobaaaNear
namespace Go.Proofs.Ytpdgjjpfahobaaa
open Go.RowKit Lamp

/-- The coefficients of the first j powers. -/
def onesC (P : List Nat) (j : Nat) : List Nat := (List.range 201).map fun i => if i ∈ P.take j then 1 else 0
theorem onesC_len (P : List Nat) (j : Nat) : (onesC P j).length = 201 := by simp [onesC]
theorem onesC_at (P : List Nat) (j i : Nat) (h : i < 201) : (onesC P j).getD i 0 = if i ∈ P.take j then 1 else 0 := by
  simp [onesC, List.getD_eq_getElem?_getD, h]
theorem onesC_zero (P : List Nat) : List.replicate 201 0 = onesC P 0 := by
  have h : ∀ n, List.replicate n 0 = (List.range n).map fun i => if i ∈ P.take 0 then 1 else 0 := fun n => by
    apply List.ext_getElem?
    intro i
    by_cases hi : i < n <;> simp [hi]
  exact h 201
theorem onesC_set (P : List Nat) (j x : Nat) (h : P[j]? = some x) : (onesC P j).set x 1 = onesC P (j + 1) := by
  have hj := List.getElem?_eq_some_iff.1 h
  have ht : P.take (j + 1) = P.take j ++ [x] := by rw [List.take_succ_eq_append_getElem hj.1, hj.2]
  unfold onesC
  rw [ht]
  apply List.ext_getElem?
  intro i
  rw [List.getElem?_set]
  by_cases hi : i < 201
  · by_cases e : x = i
    · subst e; simp [hi]
    · rw [if_neg e]
      simp only [List.getElem?_map, List.getElem?_range hi, Option.map_some, List.mem_append, List.mem_singleton]
      have : ¬ i = x := fun h => e h.symm
      simp [this]
  · by_cases e : x = i
    · subst e; simp [hi]
    · simp [hi, e]
theorem onesC_two (P : List Nat) (j : Nat) : ∀ x ∈ onesC P j, x < 2 := by
  intro x hx
  obtain ⟨i, _, rfl⟩ := List.mem_map.1 hx
  split <;> omega
theorem onesC_val {k : Nat} (hk : k ≤ 200) : valN (onesC (polyL k) (polyL k).length) = polyV k := by
  apply Nat.eq_of_testBit_eq
  intro i
  unfold polyV
  rw [valN_bit, valN_bit]
  have hm := (memK_ok false k).1.2
  by_cases hi : i < 201
  · rw [onesC_at _ _ _ hi, List.take_length]
    have : i ∈ polyL k ↔ (memberL k false).getD i 0 = 1 := by
      unfold polyL onesK
      rw [List.mem_filter, List.mem_range, decide_eq_true_eq]
      constructor
      · exact fun h => h.2
      · intro h
        refine ⟨?_, h⟩
        apply Decidable.byContradiction
        intro hc
        rw [getD_out (by omega)] at h
        cases h
    by_cases h : i ∈ polyL k
    · rw [if_pos h, this.1 h]
    · rw [if_neg h]
      have h2 : ¬ (memberL k false).getD i 0 = 1 := fun h3 => h (this.2 h3)
      simp only [h2]
      rfl
  · rw [getD_out (by rw [onesC_len]; omega), getD_out (by unfold memberL; omega)]

set_option maxRecDepth 100000 in
set_option maxHeartbeats 4000000 in
theorem polynomial_any (A : Option Addr) (P : List Nat) (c : Nat) (w : World) (hr : RInts w w.heap.size A (natV P)) (hl : P.length ≤ 1000) (hP : ∀ x ∈ P, x < 201) :
    Calls Try.prog 50 #[.slice A P.length c] w fun e w' => e = .returned (.tuple #[.slice (some ⟨w.heap.size, 0, none⟩) 201 201, .bool true]) ∧ Box w' w.heap.size 3 (iC (onesC P P.length)) ∧ Below w.heap.size w w' := by
  have HR := Lib.hid hr
  have HP := Lib.hid hP
  have hmk : (Instr.makeSlice 28 (.int .i64 201) (.int .i64 201)).run Try.prog w = .ok (.slice (some ⟨w.heap.size, 0, none⟩) 201 201) (w.alloc (.cells (iC (onesC P 0)) 3)) := by
    rw [← onesC_zero]
    exact make_ic 201 (by decide) w
  clear hr hP
  go_enter Try.func50, Try.ntmps50
  go_wp2_with fail
  clear hmk
  go_loopw [5] (fun i wr => ∃ k : Nat, i = .int .i64 k ∧ k ≤ P.length ∧ Hid (Box wr w.heap.size 3 (iC (onesC P k))) ∧ Hid (Below w.heap.size w wr)) (fun i _ => P.length - (intOf i).toNat)
  case atStart => exact ⟨0, rfl, by omega, Lib.hid (Box.new w _ _), Lib.hid ((Below.refl _ w).alloc (Nat.le_refl _) _)⟩
  case round =>
    obtain ⟨k, rfl, hk, HX1, HB1⟩ := hrel
    have HX := HX1
    have HB := HB1
    clear HX1 HB1
    by_cases hlt : k < P.length
    · obtain ⟨b, o, z, hA, hb, hz, hcz⟩ := (HR.out.below HB.out).at_ (k := k) (by rw [natV_len]; exact hlt)
      subst hA
      obtain ⟨x, rfl, HY⟩ : ∃ x : Nat, z = (x : Int) ∧ Hid (P[k]? = some x) := by
        have h5 := natV_at hz
        refine ⟨P.getD k 0, h5.1, Lib.hid ?_⟩
        rw [List.getD_eq_getElem?_getD, List.getElem?_eq_getElem hlt]; rfl
      have hx := HP.out x (List.mem_of_getElem? HY.out)
      have HS := Lib.hid (onesC_set P k x HY.out)
      have hcx := HX.out.cell x
      rw [iC_at _ _ (by rw [onesC_len]; exact hx)] at hcx
      have hfx := HX.out.free x
      have hlt' : (k : Int) < (P.length : Int) := by omega
      have hx' : (x : Int) < 201 := by omega
      have hx0 : decide ((x : Int) < 0) = false := by simp
      have hx2 : decide ((200 : Int) < (x : Int)) = false := by simp; omega
      clear hz
      go_wp2_with fail
      clear hcz hcx hfx
      go_roundw
      case rel =>
        refine ⟨k + 1, by go_num, by omega, Lib.hid ?_, Lib.hid (HB.out.setCell (p := ⟨w.heap.size, x, none⟩) (Nat.le_refl _) _)⟩
        have h1 := iC_put HX.out x 1 _ rfl
        rw [HS.out] at h1
        exact h1
      case measure => simp [intOf]; omega
    · obtain rfl : k = P.length := by omega
      go_wp2_with fail
      go_ret2
      exact ⟨rfl, HX.out, HB.out⟩

/-- The greatest place below k that is not 0, or -1. -/
def degK (l : List Nat) : Nat → Int
  | 0 => -1
  | k + 1 => if l.getD k 0 = 0 then degK l k else (k : Int)
def degL (l : List Nat) : Int := degK l l.length
theorem degK_val {l : List Nat} (h2 : ∀ x ∈ l, x < 2) : ∀ k, (valK l k = 0 → degK l k = -1) ∧ (valK l k ≠ 0 → degK l k = ((valK l k).log2 : Nat)) ∧ valK l k < 2 ^ k
  | 0 => ⟨fun _ => rfl, fun h => absurd rfl h, by simp [valK]⟩
  | k + 1 => by
    obtain ⟨i1, i2, i3⟩ := degK_val h2 k
    have hb := getD_lt (M := 2) h2 (by decide) k
    have hp : (2:Nat) ^ (k + 1) = 2 ^ k + 2 ^ k := by rw [Nat.pow_succ]; omega
    have hp0 := Nat.two_pow_pos k
    rw [valK, degK]
    by_cases h0 : l.getD k 0 = 0
    · rw [if_pos h0, if_neg (by omega)]
      exact ⟨i1, i2, by omega⟩
    · rw [if_neg h0, if_pos (by omega)]
      have ht := xor_top (t := k) i3 (Nat.le_refl _) (Nat.pow_lt_pow_right (by decide) (by omega))
      refine ⟨fun h => by omega, fun _ => ?_, ht.2⟩
      rw [log2_eq ht.1 ht.2]
theorem degL_zero {l : List Nat} (h2 : ∀ x ∈ l, x < 2) (h : valN l = 0) : degL l = -1 := (degK_val h2 _).1 h
theorem degL_val {l : List Nat} (h2 : ∀ x ∈ l, x < 2) (h : valN l ≠ 0) : degL l = ((valN l).log2 : Nat) := (degK_val h2 _).2.1 h

/-- The first n cells of a block are these numbers. -/
def RowN (w : World) (g : Nat) (l : List Nat) : Prop := ∃ cs, Box w g 3 cs ∧ l.length ≤ cs.size ∧ ∀ i, i < l.length → cs[i]? = some (.int .i64 (l.getD i 0 : Nat))
section
variable {w w' : World} {g : Nat} {l : List Nat}
theorem RowN.of_box (h : Box w g 3 (iC l)) : RowN w g l := ⟨_, h, by rw [iC_size]; exact Nat.le_refl _, fun i hi => iC_at l i hi⟩
theorem RowN.cell (h : RowN w g l) {i : Nat} (hi : i < l.length) : w.cell? ⟨g, i, none⟩ = some (.int .i64 (l.getD i 0 : Nat)) := by
  obtain ⟨cs, hb, _, hc⟩ := h
  rw [hb.cell]; exact hc i hi
theorem RowN.free (h : RowN w g l) (i : Nat) : w.frozen? ⟨g, i, none⟩ = false := by
  obtain ⟨cs, hb, _⟩ := h; exact hb.free i
theorem RowN.lt (h : RowN w g l) : g < w.heap.size := by obtain ⟨cs, hb, _⟩ := h; exact hb.lt
theorem RowN.drewN (h : RowN w g l) (n : Nat) : RowN (w.drewN n) g l := h
theorem RowN.below {B : Nat} (h : RowN w g l) (hb : Below B w w') (hg : g < B) : RowN w' g l := by
  obtain ⟨cs, hx, h1, h2⟩ := h; exact ⟨cs, hx.below hb hg, h1, h2⟩
theorem RowN.far (h : RowN w g l) {p : Addr} (hp : g ≠ p.block) (u : Value) : RowN (w.setCell p u) g l := by
  obtain ⟨cs, hx, h1, h2⟩ := h; exact ⟨cs, hx.far hp u, h1, h2⟩
theorem RowN.put (h : RowN w g l) {i : Nat} (hi : i < l.length) (v : Nat) (u : Int) (hu : u = (v : Int)) : RowN (w.setCell ⟨g, i, none⟩ (.int .i64 u)) g (l.set i v) := by
  obtain ⟨cs, hx, h1, h2⟩ := h
  refine ⟨_, hx.put i _, by simpa using h1, fun j hj => ?_⟩
  rw [List.length_set] at hj
  rw [Array.getElem?_setIfInBounds, hu]
  by_cases e : i = j
  · subst e
    rw [if_pos rfl, if_pos (by omega)]
    simp [List.getD_eq_getElem?_getD, hi]
  · rw [if_neg e, h2 j hj]
    simp [List.getD_eq_getElem?_getD, e]
end

set_option maxRecDepth 100000 in
theorem ldegree_any (g n c : Nat) (l : List Nat) (w : World) (hn : n = l.length) (hb : RowN w g l) (hl : l.length ≤ 100000) {d : Int} (hd : degL l = d) :
    Calls Try.prog 79 #[.slice (some ⟨g, 0, none⟩) n c] w fun e w' => e = .returned (.int .i64 d) ∧ w = w' := by
  subst hn hd
  have HB := Lib.hid hb
  clear hb
  go_enter Try.func79, Try.ntmps79
  go_wp2_with fail
  go_loop [3] (fun i => ∃ k : Nat, i = .int .i64 ((k : Int) - 1) ∧ k ≤ l.length ∧ degL l = degK l k) (fun i => (intOf i + 1).toNat)
  case atStart => exact ⟨l.length, rfl, by omega, rfl⟩
  case round =>
    obtain ⟨k, rfl, hk, hd⟩ := hrel
    have HD := Lib.hid hd
    clear hd
    cases k with
    | zero =>
      have h0 : ¬ (0 : Int) ≤ ((0 : Nat) : Int) - 1 := by omega
      go_wp2_with fail
      go_ret
      exact ⟨ret_int (by rw [HD.out]; rfl), rfl⟩
    | succ k =>
      have h0 : ((k + 1 : Nat) : Int) - 1 = (k : Int) := by omega
      rw [h0]
      have hck := HB.out.cell (i := k) (by omega)
      have HK := Lib.hid (show degK l (k + 1) = if l.getD k 0 = 0 then degK l k else (k : Int) from rfl)
      obtain ⟨x, hx⟩ : ∃ x, l.getD k 0 = x := ⟨_, rfl⟩
      rw [hx] at hck HK
      have hkl : (k : Int) < (l.length : Int) := by omega
      have hk0 : (0 : Int) ≤ (k : Int) := by omega
      clear hx h0
      by_cases hx0 : x = 0
      · subst hx0
        have HE := Lib.hid (show degL l = degK l k by rw [HD.out, HK.out, if_pos rfl])
        go_wp2_with fail
        go_round
        case rel => exact ⟨k, by go_num, by omega, HE.out⟩
        case measure => simp [intOf]
      · have hx1 : ((x : Int) == 0) = false := by rw [beq_eq_false_iff_ne]; omega
        have HE := Lib.hid (show degL l = (k : Int) by rw [HD.out, HK.out, if_neg hx0])
        go_wp2_with fail
        go_ret
        exact ⟨ret_int HE.out.symm, rfl⟩
end Go.Proofs.Ytpdgjjpfahobaaa
