/- The reference's polynomials of chapter 4: the same coefficients as the program's, and the places that hold 1. -/
import Derived.Test.YtpdgjjpfahobaaaPoly3
namespace Go.Proofs.Ytpdgjjpfahobaaa
open Go.RowKit Lamp

/-- Numbers as cells of ints. -/
def iC (l : List Nat) : Array Value := (l.map fun (x : Nat) => Value.int .i64 (x : Int)).toArray
theorem iC_size (l : List Nat) : (iC l).size = l.length := by simp [iC]
theorem iC_at (l : List Nat) (k : Nat) (h : k < l.length) : (iC l)[k]? = some (.int .i64 (l.getD k 0 : Nat)) := by
  simp [iC, List.getElem?_eq_getElem h, List.getD_eq_getElem?_getD]
theorem iC_set (l : List Nat) (i v : Nat) : (iC l).setIfInBounds i (.int .i64 (v : Nat)) = iC (l.set i v) := by
  simp [iC, List.map_set]
theorem make_ic (n : Nat) (hn : n ≤ 1000000) (w : World) :
    (Instr.makeSlice 28 (.int .i64 n) (.int .i64 n)).run Try.prog w = .ok (.slice (some ⟨w.heap.size, 0, none⟩) n n) (w.alloc (.cells (iC (List.replicate n 0)) 3)) := by
  obtain ⟨i0, hi, hz0, hz1, hz2⟩ := info_parts Try.info3
  have h1 := run_make (P := Try.prog) w 28 3 i0 (.int .i64 0) Try.underlying28 hi hz0 .i64 .i64 n n (by omega) (by omega) (by rw [hz2]; omega) (by omega)
  rw [hz1] at h1
  have h2 : madeCells (Value.int .i64 0).cells (n * 1) = iC (List.replicate n 0) := by
    apply Array.ext_getElem?
    intro j
    by_cases hj : j < n
    · simp [madeCells, Value.cells, iC, Nat.mod_one, hj]
    · simp [madeCells, Value.cells, iC, Nat.mod_one, hj]
  rw [show ((n : Int)).toNat = n from rfl, h2] at h1
  simpa using h1

/-- The first j of n coefficients, then zeros. -/
def partL (l : List Nat) (n j : Nat) : List Nat := (List.range n).map fun i => if i < j then l.getD i 0 else 0
theorem partL_len (l : List Nat) (n j : Nat) : (partL l n j).length = n := by simp [partL]
theorem partL_getD (l : List Nat) (n j i : Nat) (h : i < n) : (partL l n j).getD i 0 = if i < j then l.getD i 0 else 0 := by
  simp [partL, List.getD_eq_getElem?_getD, h]
theorem partL_zero (l : List Nat) (n : Nat) : partL l n 0 = List.replicate n 0 := by
  apply List.ext_getElem?
  intro i
  by_cases hi : i < n
  · simp [partL, hi]
  · simp [partL, hi]
theorem partL_set (l : List Nat) (n j : Nat) : (partL l n j).set j (l.getD j 0) = partL l n (j + 1) := by
  apply List.ext_getElem?
  intro i
  rw [List.getElem?_set]
  unfold partL
  by_cases hi : i < n
  · by_cases hij : j = i
    · subst hij; simp [hi]
    · rw [if_neg hij]
      simp only [List.getElem?_map, List.getElem?_range hi, Option.map_some]
      congr 1
      by_cases h2 : i < j
      · rw [if_pos h2, if_pos (by omega)]
      · rw [if_neg h2, if_neg (by omega)]
  · by_cases hij : j = i
    · subst hij; simp [hi]
    · simp [hi, hij]
theorem cutN_rest (l : List Nat) : ∀ n, ∀ i, cutN l n ≤ i → i < n → l.getD i 0 = 0
  | 0, i, _, h => by omega
  | n + 1, i, h1, h2 => by
    unfold cutN at h1
    split at h1
    · rename_i h0
      by_cases hi : i = n
      · subst hi; exact h0
      · exact cutN_rest l n i h1 (by omega)
    · omega
theorem cutL_getD (l : List Nat) (i : Nat) : (cutL l).getD i 0 = l.getD i 0 := by
  unfold cutL
  by_cases h : i < cutN l l.length
  · simp only [List.getD_eq_getElem?_getD, List.getElem?_take, if_pos h]
  · have h1 : (l.take (cutN l l.length)).getD i 0 = 0 := by
      simp only [List.getD_eq_getElem?_getD, List.getElem?_take, if_neg h, Option.getD_none]
    rw [h1]
    by_cases h2 : i < l.length
    · exact (cutN_rest l _ i (by omega) h2).symm
    · simp [List.getD_eq_getElem?_getD, List.getElem?_eq_none (Nat.le_of_not_lt h2)]
theorem getD_out {l : List Nat} {i : Nat} (h : l.length ≤ i) : l.getD i 0 = 0 := by
  simp [List.getD_eq_getElem?_getD, List.getElem?_eq_none h]
theorem plusL_getD (f g : List Nat) (s i : Nat) : (plusL f s g).getD i 0 = f.getD i 0 ^^^ (if s ≤ i then g.getD (i - s) 0 else 0) := by
  unfold plusL
  rw [cutL_getD]
  by_cases h : i < max f.length (s + g.length)
  · rw [sumK_getD _ _ _ _ _ _ h]
    congr 1
    by_cases h1 : s ≤ i
    · rw [if_pos h1]
      by_cases h2 : i - s < g.length
      · rw [if_pos ⟨h1, h2⟩]
      · rw [if_neg (fun h => h2 h.2), getD_out (by omega)]
    · rw [if_neg h1, if_neg (fun h => h1 h.1)]
  · rw [getD_out (by rw [sumK_len]; omega), getD_out (l := f) (by omega)]
    split
    · rw [getD_out (by omega)]; rfl
    · rfl
theorem xor_bits {a b : Nat} (ha : a < 2) (hb : b < 2) : a ^^^ b = (a + b) % 2 := by
  have h1 : a = 0 ∨ a = 1 := by omega
  have h2 : b = 0 ∨ b = 1 := by omega
  rcases h1 with rfl | rfl <;> rcases h2 with rfl | rfl <;> rfl
theorem memberL_lt (k i : Nat) : (memberL k false).getD i 0 < 2 := getD_lt (M := 2) (memK_ok false k).2.2 (by decide) i
theorem memberL_zero (k : Nat) : (memberL (k + 2) false).getD 0 0 = (memberL k false).getD 0 0 := by
  show (plusL (memK false (k + 1)).1 1 (memK false (k + 1)).2).getD 0 0 = _
  rw [plusL_getD, if_neg (by decide), Nat.xor_zero]
  rfl
theorem memberL_next (k i : Nat) (h : 0 < i) : (memberL (k + 2) false).getD i 0 = ((memberL k false).getD i 0 + (memberL (k + 1) false).getD (i - 1) 0) % 2 := by
  show (plusL (memK false (k + 1)).1 1 (memK false (k + 1)).2).getD i 0 = _
  rw [plusL_getD, if_pos (by omega)]
  exact xor_bits (memberL_lt k i) (memberL_lt (k + 1) (i - 1))
theorem memberL_one : memberL 1 false = [1] := by decide +kernel

set_option maxRecDepth 100000 in
set_option maxHeartbeats 2000000 in
theorem RPolynomial_any (k : Nat) (w : World) (hk : k ≤ 1000) :
    Calls Try.prog 48 #[.int .i64 k] w fun e w' => ∃ g c, e = .returned (.slice (some ⟨g, 0, none⟩) (k + 2) c) ∧ Box w' g 3 (iC (partL (memberL k false) (k + 2) (k + 2))) ∧ Below w.heap.size w w' := by
  obtain ⟨n, hn⟩ : ∃ n, k + 2 = n := ⟨_, rfl⟩
  have hn' : (k : Int) + 2 = (n : Int) := by omega
  have hmk := make_ic n (by omega)
  have hwn : IntKind.i64.wrap (n : Int) = (n : Int) := IntWalk.i64_in _ (by omega)
  go_enter Try.func48, Try.ntmps48
  go_wp2_with fail
  refine wp_region_held_drew (S := fun _ => True) (by kernel_rfl) trivial (fun hHeld => ?_)
  refine wpAnyH_take (i := 0) (v := ?_) rfl (by kernel_rfl) (by kernel_rfl) (by kernel_rfl) (fun _ _ _ h => h) (Or.inl ⟨by rfl, ?_⟩) (by assumption) ?_
  rotate_left
  · (intro w hSw; (try dsimp only at hSw); go_simp <;> (with_reducible rfl))
  try simp only [Act.put, List.setIfInBounds_toArray, List.set_cons_zero, List.set_cons_succ, List.getElem_toArray, List.getElem_cons_zero]
  refine wpAnyH_take (i := 1) (v := ?_) rfl (by kernel_rfl) (by kernel_rfl) (by kernel_rfl) (fun _ _ _ h => h) (Or.inl ⟨by rfl, ?_⟩) (by assumption) ?_
  rotate_left
  · (intro w hSw; (try dsimp only at hSw); go_simp <;> (with_reducible rfl))
  try simp only [Act.put, List.setIfInBounds_toArray, List.set_cons_zero, List.set_cons_succ, List.getElem_toArray, List.getElem_cons_zero, List.getElem_cons_succ]
  refine wpAnyH_take (i := 3) (v := ?_) rfl (by kernel_rfl) (by kernel_rfl) (by kernel_rfl) (fun _ _ _ h => h) (Or.inl ⟨by rfl, ?_⟩) (by assumption) ?_
  rotate_left
  · (intro w hSw; (try dsimp only at hSw); go_simp <;> (with_reducible rfl))
  try simp only [Act.put, List.setIfInBounds_toArray, List.set_cons_zero, List.set_cons_succ, List.getElem_toArray, List.getElem_cons_zero, List.getElem_cons_succ]
  refine wpAnyH_take (i := 4) (v := ?_) rfl (by kernel_rfl) (by kernel_rfl) (by kernel_rfl) (fun _ _ _ h => h) (Or.inl ⟨by rfl, ?_⟩) (by assumption) ?_
  rotate_left
  · (intro w hSw; (try dsimp only at hSw); go_simp <;> (with_reducible rfl))
  try simp only [Act.put, List.setIfInBounds_toArray, List.set_cons_zero, List.set_cons_succ, List.getElem_toArray, List.getElem_cons_zero, List.getElem_cons_succ]
  refine wpAnyH_ready (rs := [2, 5]) (by kernel_rfl) (by simp) ?_
  refine AllReadyH.cons rfl (fun K hK => ?_) (AllReadyH.cons rfl (fun K hK => ?_) AllReadyH.nil)
  · go_simp
    refine hK.out _ _ trivial (fun hHeld => ?_)
    clear hK K
    try simp only [Act.put, List.setIfInBounds_toArray, List.set_cons_zero, List.set_cons_succ, List.getElem_toArray, List.getElem_cons_zero, List.getElem_cons_succ]
    refine wpAnyH_take (i := 6) (v := ?_) rfl (by kernel_rfl) (by kernel_rfl) (by kernel_rfl) (fun _ _ _ h => h) (Or.inl ⟨by rfl, ?_⟩) (by assumption) ?_
    rotate_left
    · (intro w hSw; (try dsimp only at hSw); go_simp <;> (with_reducible rfl))
    try simp only [Act.put, List.setIfInBounds_toArray, List.set_cons_zero, List.set_cons_succ, List.getElem_toArray, List.getElem_cons_zero, List.getElem_cons_succ]
    refine wpAnyH_ready (rs := [5]) (by kernel_rfl) (by simp) ?_
    refine AllReadyH.cons rfl (fun K hK => ?_) AllReadyH.nil
    go_simp
    refine hK.out _ _ trivial (fun hHeld => ?_)
    clear hK K
    try simp only [Act.put, List.setIfInBounds_toArray, List.set_cons_zero, List.set_cons_succ, List.getElem_toArray, List.getElem_cons_zero, List.getElem_cons_succ]
    refine wpAnyH_take (i := 7) (v := ?_) rfl (by kernel_rfl) (by kernel_rfl) (by kernel_rfl) (fun _ _ _ h => h) (Or.inl ⟨by rfl, ?_⟩) (by assumption) ?_
    rotate_left
    · (intro w hSw; (try dsimp only at hSw); go_simp <;> (with_reducible rfl))
    try simp only [Act.put, List.setIfInBounds_toArray, List.set_cons_zero, List.set_cons_succ, List.getElem_toArray, List.getElem_cons_zero, List.getElem_cons_succ]
    refine wpAnyH_done (by kernel_rfl) ?_ _
    obtain ⟨w2, hw2⟩ : ∃ w2, ((w.alloc (Obj.cells (iC (List.replicate n 0)) 3)).alloc (Obj.cells (iC (List.replicate n 0)) 3)).drew = w2 := ⟨_, rfl⟩
    rw [hw2]
    have hX : Box w2 w.heap.size 3 (iC (List.replicate n 0)) := by rw [← hw2]; exact (Box.new w _ _).alloc _
    have hY : Box w2 (w.heap.size + 1) 3 (iC (List.replicate n 0)) := by
      have h := Box.new (w.alloc (Obj.cells (iC (List.replicate n 0)) 3)) 3 (iC (List.replicate n 0))
      rw [← hw2]
      simp only [World.size_alloc] at h
      exact h
    have HW := Lib.hid (show Below w.heap.size w w2 by rw [← hw2]; exact (((Below.refl _ w).alloc (Nat.le_refl _) _).alloc (by simp) _).drew)
    obtain ⟨gn, hgn⟩ : ∃ g, w.heap.size + 1 = g := ⟨_, rfl⟩
    obtain ⟨gb, hgb⟩ : ∃ g, w.heap.size = g := ⟨_, rfl⟩
    rw [hgn] at hY ⊢
    rw [hgb] at hX ⊢
    have hne : gb ≠ gn := by omega
    replace hgb : w.heap.size ≤ gb := by omega
    replace hgn : w.heap.size ≤ gn := by omega
    clear hw2
    have HXb := Lib.hid hX
    have HXn := Lib.hid hY
    have hcn := hY.cell 0
    rw [iC_at _ _ (by simp; omega), show (List.replicate n 0).getD 0 0 = 0 by simp [List.getD_eq_getElem?_getD, show 0 < n by omega]] at hcn
    have hfn := hY.free 0
    have hn0 : (0 : Int) < (n : Int) := by omega
    clear hX hY hmk
    by_cases hk0 : k = 0
    · subst hk0
      go_wp2_with fail
      go_ret
      refine ⟨gb, n, by rw [hn]; rfl, ?_, HW.out.setCell (p := ⟨gn, 0, none⟩) hgn _⟩
      rw [hn, show partL (memberL 0 false) n n = List.replicate n 0 from ?_]
      · exact HXb.out.far (p := ⟨gn, 0, none⟩) hne _
      · rw [← partL_zero [] n]
        unfold partL memberL memK
        simp
    · have hk0' : ¬ (k : Int) = 0 := by omega
      go_wp2_with fail
      rw [show ((k : Int) == 0) = false by rw [beq_eq_false_iff_ne]; exact hk0']
      clear hk0' hcn hfn
      go_loopw [3, 4, 5] (fun b f i wr => ∃ (j gb gf : Nat), i = .int .i64 ((j : Int) + 1) ∧ j + 1 ≤ k ∧ b = .slice (some ⟨gb, 0, none⟩) n n ∧ f = .slice (some ⟨gf, 0, none⟩) n n ∧ Hid (Box wr gb 3 (iC (partL (memberL j false) n n))) ∧ Hid (Box wr gf 3 (iC (partL (memberL (j + 1) false) n n))) ∧ Hid (Below w.heap.size w wr)) (fun _ _ i _ => k - (intOf i).toNat)
      case atStart =>
        refine ⟨0, gb, gn, rfl, by omega, rfl, rfl, Lib.hid ?_, Lib.hid ?_, Lib.hid (HW.out.setCell (p := ⟨gn, 0, none⟩) hgn _)⟩
        · rw [show partL (memberL 0 false) n n = List.replicate n 0 from ?_]
          · exact HXb.out.far (p := ⟨gn, 0, none⟩) hne _
          · rw [← partL_zero [] n]
            unfold partL memberL memK
            simp
        · have h1 := HXn.out.put 0 (.int .i64 ((1 : Nat) : Int))
          rw [iC_set] at h1
          rw [show partL (memberL (0 + 1) false) n n = (List.replicate n 0).set 0 1 from ?_]
          · exact h1
          · rw [memberL_one, ← partL_zero [1] n]
            have h2 := partL_set [1] n 0
            rw [show ([1] : List Nat).getD 0 0 = 1 from rfl] at h2
            rw [h2]
            unfold partL
            refine List.map_congr_left fun i hi => ?_
            have := List.mem_range.1 hi
            rw [if_pos this]
            split
            · rfl
            · exact getD_out (by simp; omega)
      case round =>
        obtain ⟨j, gb, gf, rfl, hj, rfl, rfl, HB1, HF1, HW1⟩ := hrel
        have HBx := HB1
        have HFx := HF1
        have HWx := HW1
        clear HB1 HF1 HW1 HXb HXn HW hne hgb hgn
        have hwr := HWx.out.size
        by_cases hlt : j + 1 < k
        · obtain ⟨wo, hwo⟩ : ∃ wo, wo = wr := ⟨_, rfl⟩
          subst hwo
          have hmk := make_ic n (by omega)
          have hlt' : (j : Int) + 1 < (k : Int) := by omega
          go_wp2_with fail
          clear hmk hlt'
          go_loopw [7] (fun i wx => ∃ m : Nat, i = .int .i64 m ∧ m ≤ n ∧ Hid (Box wx wo.heap.size 3 (iC (partL (memberL (j + 2) false) n m))) ∧ Hid (Below wo.heap.size wo wx)) (fun i _ => n - (intOf i).toNat)
          case atStart =>
            refine ⟨0, rfl, by omega, Lib.hid ?_, Lib.hid ((Below.refl _ wo).alloc (Nat.le_refl _) _)⟩
            rw [partL_zero]
            exact Box.new wo _ _
          case round =>
            obtain ⟨m, rfl, hm, HX1, HZ1⟩ := hrel
            have HX := HX1
            have HZ := HZ1
            clear HX1 HZ1
            by_cases hmn : m < n
            · have hb1 := (HBx.out.below HZ.out HBx.out.lt)
              have hf1 := (HFx.out.below HZ.out HFx.out.lt)
              have hbne : gb ≠ wo.heap.size := by have := HBx.out.lt; omega
              have hfne : gf ≠ wo.heap.size := by have := HFx.out.lt; omega
              have hmn' : (m : Int) < (n : Int) := by omega
              have hcb := hb1.cell m
              rw [iC_at _ _ (by rw [partL_len]; exact hmn), partL_getD _ _ _ _ hmn, if_pos hmn] at hcb
              have hcx := HX.out.cell m
              rw [iC_at _ _ (by rw [partL_len]; exact hmn), partL_getD _ _ _ _ hmn, if_neg (Nat.lt_irrefl _)] at hcx
              have hfx := HX.out.free m
              by_cases hm0 : m = 0
              · subst hm0
                have HE := Lib.hid (memberL_zero j)
                obtain ⟨a, ha⟩ : ∃ a, (memberL j false).getD 0 0 = a := ⟨_, rfl⟩
                rw [ha] at hcb HE
                go_wp2_with fail
                go_roundw
                case rel =>
                  refine ⟨0 + 1, by go_num, by omega, Lib.hid ?_, Lib.hid (HZ.out.setCell (p := ⟨wo.heap.size, 0, none⟩) (Nat.le_refl _) _)⟩
                  have h1 := HX.out.put 0 (.int .i64 ((a : Nat) : Int))
                  rw [iC_set, ← HE.out, partL_set] at h1
                  rw [← HE.out]
                  exact h1
                case measure => simp [intOf]; omega
              · have HE := Lib.hid (memberL_next j m (by omega))
                have HA2 := Lib.hid (memberL_lt j m)
                have HC2 := Lib.hid (memberL_lt (j + 1) (m - 1))
                have hcf := hf1.cell (m - 1)
                rw [iC_at _ _ (by rw [partL_len]; omega), partL_getD _ _ _ _ (by omega), if_pos (by omega)] at hcf
                obtain ⟨a, ha⟩ : ∃ a, (memberL j false).getD m 0 = a := ⟨_, rfl⟩
                obtain ⟨c, hc⟩ : ∃ c, (memberL (j + 1) false).getD (m - 1) 0 = c := ⟨_, rfl⟩
                rw [ha] at hcb HE HA2
                rw [hc] at hcf HE HC2
                clear ha hc
                have hm1 : (0 : Int) < (m : Int) := by omega
                have hwm : IntKind.i64.wrap ((m : Int) - 1) = ((m - 1 : Nat) : Int) := by rw [IntWalk.i64_in _ (by omega)]; omega
                have hml : ((m - 1 : Nat) : Int) < (n : Int) := by omega
                have hmg : (0 : Int) ≤ ((m - 1 : Nat) : Int) := by omega
                go_wp2_with fail
                obtain ⟨w5, hw5⟩ : ∃ w5, wr.setCell ⟨wo.heap.size, m, none⟩ (.int .i64 ((a : Nat) : Int)) = w5 := ⟨_, rfl⟩
                have hX5 : Box w5 wo.heap.size 3 (iC ((partL (memberL (j + 2) false) n m).set m a)) := by
                  have h1 := HX.out.put m (.int .i64 ((a : Nat) : Int))
                  rw [iC_set] at h1
                  rw [← hw5]
                  exact h1
                have hb5 : w5.cell? ⟨gb, m, none⟩ = some (.int .i64 ((a : Nat) : Int)) := by rw [← hcb, ← hw5]; exact ((hb1.far (p := ⟨wo.heap.size, m, none⟩) hbne _).cell m).trans (hb1.cell m).symm
                have hf5 : w5.cell? ⟨gf, m - 1, none⟩ = some (.int .i64 ((c : Nat) : Int)) := by rw [← hcf, ← hw5]; exact ((hf1.far (p := ⟨wo.heap.size, m, none⟩) hfne _).cell (m - 1)).trans (hf1.cell (m - 1)).symm
                have HB5 := Lib.hid (show Box w5 gb 3 (iC (partL (memberL j false) n n)) by rw [← hw5]; exact hb1.far (p := ⟨wo.heap.size, m, none⟩) hbne _)
                have HF5 := Lib.hid (show Box w5 gf 3 (iC (partL (memberL (j + 1) false) n n)) by rw [← hw5]; exact hf1.far (p := ⟨wo.heap.size, m, none⟩) hfne _)
                have hx5 := hX5.cell m
                rw [iC_at _ _ (by rw [List.length_set, partL_len]; exact hmn)] at hx5
                have hy5 := hX5.free m
                have HX5 := Lib.hid hX5
                have HZ5 := Lib.hid (show Below wo.heap.size wo w5 by rw [← hw5]; exact HZ.out.setCell (p := ⟨wo.heap.size, m, none⟩) (Nat.le_refl _) _)
                rw [hw5]
                have ha2 := HA2.out
                have hc2 := HC2.out
                have hwa : IntKind.i64.wrap ((a : Int) + (c : Int)) = (a : Int) + (c : Int) := IntWalk.i64_in _ (by omega)
                clear hw5 hX5 hcb hcx hfx hcf hb1 hf1
                refine wp_region_held_drew (S := fun W => W.cell? ⟨gb, m, none⟩ = some (.int .i64 ((a : Nat) : Int)) ∧ W.cell? ⟨gf, m - 1, none⟩ = some (.int .i64 ((c : Nat) : Int))) (by kernel_rfl) ⟨hb5, hf5⟩ (fun hHeld => ?_)
                refine wpAnyH_take (i := 0) (v := ?_) rfl (by kernel_rfl) (by kernel_rfl) (by kernel_rfl) (fun _ _ _ h => h) (Or.inl ⟨by rfl, ?_⟩) (by assumption) ?_
                rotate_left
                · (intro w hSw; (try dsimp only at hSw); go_simp <;> (with_reducible rfl))
                try simp only [Act.put, List.setIfInBounds_toArray, List.set_cons_zero, List.set_cons_succ, List.getElem_toArray, List.getElem_cons_zero]
                refine wpAnyH_take (i := 1) (v := ?_) rfl (by kernel_rfl) (by kernel_rfl) (by kernel_rfl) (fun _ _ _ h => h) (Or.inl ⟨by rfl, ?_⟩) (by assumption) ?_
                rotate_left
                · (intro w hSw; (try dsimp only at hSw); go_simp <;> (with_reducible rfl))
                try simp only [Act.put, List.setIfInBounds_toArray, List.set_cons_zero, List.set_cons_succ, List.getElem_toArray, List.getElem_cons_zero, List.getElem_cons_succ]
                refine wpAnyH_take (i := 2) (v := ?_) rfl (by kernel_rfl) (by kernel_rfl) (by kernel_rfl) (fun _ _ _ h => h) (Or.inl ⟨by rfl, ?_⟩) (by assumption) ?_
                rotate_left
                · (intro w hSw; (try dsimp only at hSw); go_simp <;> (with_reducible rfl))
                try simp only [Act.put, List.setIfInBounds_toArray, List.set_cons_zero, List.set_cons_succ, List.getElem_toArray, List.getElem_cons_zero, List.getElem_cons_succ]
                refine wpAnyH_take (i := 3) (v := ?_) rfl (by kernel_rfl) (by kernel_rfl) (by kernel_rfl) (fun _ _ _ h => h) (Or.inl ⟨by rfl, ?_⟩) (by assumption) ?_
                rotate_left
                · (intro w hSw; (try dsimp only at hSw); go_simp <;> (with_reducible rfl))
                try simp only [Act.put, List.setIfInBounds_toArray, List.set_cons_zero, List.set_cons_succ, List.getElem_toArray, List.getElem_cons_zero, List.getElem_cons_succ]
                refine wpAnyH_take (i := 4) (v := ?_) rfl (by kernel_rfl) (by kernel_rfl) (by kernel_rfl) (fun _ _ _ h => h) (Or.inl ⟨by rfl, ?_⟩) (by assumption) ?_
                rotate_left
                · (intro w hSw; (try dsimp only at hSw); go_simp <;> (with_reducible rfl))
                try simp only [Act.put, List.setIfInBounds_toArray, List.set_cons_zero, List.set_cons_succ, List.getElem_toArray, List.getElem_cons_zero, List.getElem_cons_succ]
                refine wpAnyH_take (i := 5) (v := ?_) rfl (by kernel_rfl) (by kernel_rfl) (by kernel_rfl) (fun _ _ _ h => h) (Or.inl ⟨by rfl, ?_⟩) (by assumption) ?_
                rotate_left
                · (intro w hSw; (try dsimp only at hSw); go_simp <;> (with_reducible rfl))
                try simp only [Act.put, List.setIfInBounds_toArray, List.set_cons_zero, List.set_cons_succ, List.getElem_toArray, List.getElem_cons_zero, List.getElem_cons_succ]
                refine wpAnyH_take (i := 6) (v := ?_) rfl (by kernel_rfl) (by kernel_rfl) (by kernel_rfl) (fun _ _ _ h => h) (Or.inl ⟨by rfl, ?_⟩) (by assumption) ?_
                rotate_left
                · (intro w hSw; (try dsimp only at hSw); go_simp <;> (with_reducible rfl))
                try simp only [Act.put, List.setIfInBounds_toArray, List.set_cons_zero, List.set_cons_succ, List.getElem_toArray, List.getElem_cons_zero, List.getElem_cons_succ]
                refine wpAnyH_take (i := 7) (v := ?_) rfl (by kernel_rfl) (by kernel_rfl) (by kernel_rfl) (fun _ _ _ h => h) (Or.inl ⟨by rfl, ?_⟩) (by assumption) ?_
                rotate_left
                · (intro w hSw; (try dsimp only at hSw); go_simp <;> (with_reducible rfl))
                try simp only [Act.put, List.setIfInBounds_toArray, List.set_cons_zero, List.set_cons_succ, List.getElem_toArray, List.getElem_cons_zero, List.getElem_cons_succ]
                refine wpAnyH_take (i := 8) (v := ?_) rfl (by kernel_rfl) (by kernel_rfl) (by kernel_rfl) (fun _ _ _ h => h) (Or.inl ⟨by rfl, ?_⟩) (by assumption) ?_
                rotate_left
                · (intro w hSw; (try dsimp only at hSw); go_simp <;> (with_reducible rfl))
                try simp only [Act.put, List.setIfInBounds_toArray, List.set_cons_zero, List.set_cons_succ, List.getElem_toArray, List.getElem_cons_zero, List.getElem_cons_succ]
                refine wpAnyH_take (i := 9) (v := ?_) rfl (by kernel_rfl) (by kernel_rfl) (by kernel_rfl) (fun _ _ _ h => h) (Or.inl ⟨by rfl, ?_⟩) (by assumption) ?_
                rotate_left
                · (intro w hSw; (try dsimp only at hSw); go_simp <;> (with_reducible rfl))
                try simp only [Act.put, List.setIfInBounds_toArray, List.set_cons_zero, List.set_cons_succ, List.getElem_toArray, List.getElem_cons_zero, List.getElem_cons_succ]
                refine wpAnyH_take (i := 10) (v := ?_) rfl (by kernel_rfl) (by kernel_rfl) (by kernel_rfl) (fun _ _ _ h => h) (Or.inl ⟨by rfl, ?_⟩) (by assumption) ?_
                rotate_left
                · (intro w hSw; (try dsimp only at hSw); go_simp <;> (with_reducible rfl))
                try simp only [Act.put, List.setIfInBounds_toArray, List.set_cons_zero, List.set_cons_succ, List.getElem_toArray, List.getElem_cons_zero, List.getElem_cons_succ]
                refine wpAnyH_take (i := 11) (v := ?_) rfl (by kernel_rfl) (by kernel_rfl) (by kernel_rfl) (fun _ _ _ h => h) (Or.inl ⟨by rfl, ?_⟩) (by assumption) ?_
                rotate_left
                · (intro w hSw; (try dsimp only at hSw); go_simp <;> (with_reducible rfl))
                try simp only [Act.put, List.setIfInBounds_toArray, List.set_cons_zero, List.set_cons_succ, List.getElem_toArray, List.getElem_cons_zero, List.getElem_cons_succ]
                refine wpAnyH_take (i := 12) (v := ?_) rfl (by kernel_rfl) (by kernel_rfl) (by kernel_rfl) (fun _ _ _ h => h) (Or.inl ⟨by rfl, ?_⟩) (by assumption) ?_
                rotate_left
                · (intro w hSw; (try dsimp only at hSw); go_simp <;> (with_reducible rfl))
                try simp only [Act.put, List.setIfInBounds_toArray, List.set_cons_zero, List.set_cons_succ, List.getElem_toArray, List.getElem_cons_zero, List.getElem_cons_succ]
                refine wpAnyH_take (i := 13) (v := ?_) rfl (by kernel_rfl) (by kernel_rfl) (by kernel_rfl) (fun _ _ _ h => h) (Or.inl ⟨by rfl, ?_⟩) (by assumption) ?_
                rotate_left
                · (intro w hSw; (try dsimp only at hSw); go_simp <;> (with_reducible rfl))
                try simp only [Act.put, List.setIfInBounds_toArray, List.set_cons_zero, List.set_cons_succ, List.getElem_toArray, List.getElem_cons_zero, List.getElem_cons_succ]
                refine wpAnyH_ready (rs := [14]) (by kernel_rfl) (by simp) ?_
                refine AllReadyH.cons rfl (fun K hK => ?_) AllReadyH.nil
                go_simp
                refine hK.out _ _ ?_ (fun hHeld => ?_)
                · exact ⟨((HB5.out.far (p := ⟨wo.heap.size, m, none⟩) hbne _).cell m).trans ((HB5.out.cell m).symm.trans hb5), ((HF5.out.far (p := ⟨wo.heap.size, m, none⟩) hfne _).cell (m - 1)).trans ((HF5.out.cell (m - 1)).symm.trans hf5)⟩
                clear hK K
                try simp only [Act.put, List.setIfInBounds_toArray, List.set_cons_zero, List.set_cons_succ, List.getElem_toArray, List.getElem_cons_zero, List.getElem_cons_succ]
                refine wpAnyH_done (by kernel_rfl) ?_ _
                go_wp2_with fail
                go_roundw
                case rel =>
                  refine ⟨m + 1, by go_num, by omega, Lib.hid ?_, Lib.hid (HZ5.out.setCell (p := ⟨wo.heap.size, m, none⟩) (Nat.le_refl _) _).drew⟩
                  have h1 := HX5.out.put m (.int .i64 (((a + c) % 2 : Nat) : Int))
                  rw [iC_set, List.set_set, ← HE.out, partL_set] at h1
                  rw [show ((a : Int) + (c : Int)) % 2 = (((memberL (j + 2) false).getD m 0 : Nat) : Int) by rw [HE.out]; omega]
                  exact h1
                case measure => simp [intOf]; omega
            · obtain rfl : m = n := by omega
              go_wp2_with fail
              go_roundw
              case rel =>
                refine ⟨j + 1, gf, wo.heap.size, by go_num, by omega, rfl, rfl, Lib.hid (HFx.out.below HZ.out HFx.out.lt), HX, Lib.hid (HWx.out.trans (HZ.out.mono hwr))⟩
              case measure => simp [intOf]; omega
        · obtain rfl : k = j + 1 := by omega
          go_wp2_with fail
          go_ret
          exact ⟨gf, n, by rw [hn]; rfl, by rw [hn]; exact HFx.out, HWx.out⟩
  · go_simp
    refine hK.out _ _ trivial (fun hHeld => ?_)
    clear hK K
    try simp only [Act.put, List.setIfInBounds_toArray, List.set_cons_zero, List.set_cons_succ, List.getElem_toArray, List.getElem_cons_zero, List.getElem_cons_succ]
    refine wpAnyH_ready (rs := [2]) (by kernel_rfl) (by simp) ?_
    refine AllReadyH.cons rfl (fun K hK => ?_) AllReadyH.nil
    go_simp
    refine hK.out _ _ trivial (fun hHeld => ?_)
    clear hK K
    try simp only [Act.put, List.setIfInBounds_toArray, List.set_cons_zero, List.set_cons_succ, List.getElem_toArray, List.getElem_cons_zero, List.getElem_cons_succ]
    refine wpAnyH_take (i := 6) (v := ?_) rfl (by kernel_rfl) (by kernel_rfl) (by kernel_rfl) (fun _ _ _ h => h) (Or.inl ⟨by rfl, ?_⟩) (by assumption) ?_
    rotate_left
    · (intro w hSw; (try dsimp only at hSw); go_simp <;> (with_reducible rfl))
    try simp only [Act.put, List.setIfInBounds_toArray, List.set_cons_zero, List.set_cons_succ, List.getElem_toArray, List.getElem_cons_zero, List.getElem_cons_succ]
    refine wpAnyH_take (i := 7) (v := ?_) rfl (by kernel_rfl) (by kernel_rfl) (by kernel_rfl) (fun _ _ _ h => h) (Or.inl ⟨by rfl, ?_⟩) (by assumption) ?_
    rotate_left
    · (intro w hSw; (try dsimp only at hSw); go_simp <;> (with_reducible rfl))
    try simp only [Act.put, List.setIfInBounds_toArray, List.set_cons_zero, List.set_cons_succ, List.getElem_toArray, List.getElem_cons_zero, List.getElem_cons_succ]
    refine wpAnyH_done (by kernel_rfl) ?_ _
    obtain ⟨w2, hw2⟩ : ∃ w2, ((w.alloc (Obj.cells (iC (List.replicate n 0)) 3)).alloc (Obj.cells (iC (List.replicate n 0)) 3)).drew = w2 := ⟨_, rfl⟩
    rw [hw2]
    have hY : Box w2 w.heap.size 3 (iC (List.replicate n 0)) := by rw [← hw2]; exact (Box.new w _ _).alloc _
    have hX : Box w2 (w.heap.size + 1) 3 (iC (List.replicate n 0)) := by
      have h := Box.new (w.alloc (Obj.cells (iC (List.replicate n 0)) 3)) 3 (iC (List.replicate n 0))
      rw [← hw2]
      simp only [World.size_alloc] at h
      exact h
    have HW := Lib.hid (show Below w.heap.size w w2 by rw [← hw2]; exact (((Below.refl _ w).alloc (Nat.le_refl _) _).alloc (by simp) _).drew)
    obtain ⟨gb, hgb⟩ : ∃ g, w.heap.size + 1 = g := ⟨_, rfl⟩
    obtain ⟨gn, hgn⟩ : ∃ g, w.heap.size = g := ⟨_, rfl⟩
    rw [hgb] at hX ⊢
    rw [hgn] at hY ⊢
    have hne : gb ≠ gn := by omega
    replace hgn : w.heap.size ≤ gn := by omega
    replace hgb : w.heap.size ≤ gb := by omega
    clear hw2
    have HXb := Lib.hid hX
    have HXn := Lib.hid hY
    have hcn := hY.cell 0
    rw [iC_at _ _ (by simp; omega), show (List.replicate n 0).getD 0 0 = 0 by simp [List.getD_eq_getElem?_getD, show 0 < n by omega]] at hcn
    have hfn := hY.free 0
    have hn0 : (0 : Int) < (n : Int) := by omega
    clear hX hY hmk
    by_cases hk0 : k = 0
    · subst hk0
      go_wp2_with fail
      go_ret
      refine ⟨gb, n, by rw [hn]; rfl, ?_, HW.out.setCell (p := ⟨gn, 0, none⟩) hgn _⟩
      rw [hn, show partL (memberL 0 false) n n = List.replicate n 0 from ?_]
      · exact HXb.out.far (p := ⟨gn, 0, none⟩) hne _
      · rw [← partL_zero [] n]
        unfold partL memberL memK
        simp
    · have hk0' : ¬ (k : Int) = 0 := by omega
      go_wp2_with fail
      rw [show ((k : Int) == 0) = false by rw [beq_eq_false_iff_ne]; exact hk0']
      clear hk0' hcn hfn
      go_loopw [3, 4, 5] (fun b f i wr => ∃ (j gb gf : Nat), i = .int .i64 ((j : Int) + 1) ∧ j + 1 ≤ k ∧ b = .slice (some ⟨gb, 0, none⟩) n n ∧ f = .slice (some ⟨gf, 0, none⟩) n n ∧ Hid (Box wr gb 3 (iC (partL (memberL j false) n n))) ∧ Hid (Box wr gf 3 (iC (partL (memberL (j + 1) false) n n))) ∧ Hid (Below w.heap.size w wr)) (fun _ _ i _ => k - (intOf i).toNat)
      case atStart =>
        refine ⟨0, gb, gn, rfl, by omega, rfl, rfl, Lib.hid ?_, Lib.hid ?_, Lib.hid (HW.out.setCell (p := ⟨gn, 0, none⟩) hgn _)⟩
        · rw [show partL (memberL 0 false) n n = List.replicate n 0 from ?_]
          · exact HXb.out.far (p := ⟨gn, 0, none⟩) hne _
          · rw [← partL_zero [] n]
            unfold partL memberL memK
            simp
        · have h1 := HXn.out.put 0 (.int .i64 ((1 : Nat) : Int))
          rw [iC_set] at h1
          rw [show partL (memberL (0 + 1) false) n n = (List.replicate n 0).set 0 1 from ?_]
          · exact h1
          · rw [memberL_one, ← partL_zero [1] n]
            have h2 := partL_set [1] n 0
            rw [show ([1] : List Nat).getD 0 0 = 1 from rfl] at h2
            rw [h2]
            unfold partL
            refine List.map_congr_left fun i hi => ?_
            have := List.mem_range.1 hi
            rw [if_pos this]
            split
            · rfl
            · exact getD_out (by simp; omega)
      case round =>
        obtain ⟨j, gb, gf, rfl, hj, rfl, rfl, HB1, HF1, HW1⟩ := hrel
        have HBx := HB1
        have HFx := HF1
        have HWx := HW1
        clear HB1 HF1 HW1 HXb HXn HW hne hgb hgn
        have hwr := HWx.out.size
        by_cases hlt : j + 1 < k
        · obtain ⟨wo, hwo⟩ : ∃ wo, wo = wr := ⟨_, rfl⟩
          subst hwo
          have hmk := make_ic n (by omega)
          have hlt' : (j : Int) + 1 < (k : Int) := by omega
          go_wp2_with fail
          clear hmk hlt'
          go_loopw [7] (fun i wx => ∃ m : Nat, i = .int .i64 m ∧ m ≤ n ∧ Hid (Box wx wo.heap.size 3 (iC (partL (memberL (j + 2) false) n m))) ∧ Hid (Below wo.heap.size wo wx)) (fun i _ => n - (intOf i).toNat)
          case atStart =>
            refine ⟨0, rfl, by omega, Lib.hid ?_, Lib.hid ((Below.refl _ wo).alloc (Nat.le_refl _) _)⟩
            rw [partL_zero]
            exact Box.new wo _ _
          case round =>
            obtain ⟨m, rfl, hm, HX1, HZ1⟩ := hrel
            have HX := HX1
            have HZ := HZ1
            clear HX1 HZ1
            by_cases hmn : m < n
            · have hb1 := (HBx.out.below HZ.out HBx.out.lt)
              have hf1 := (HFx.out.below HZ.out HFx.out.lt)
              have hbne : gb ≠ wo.heap.size := by have := HBx.out.lt; omega
              have hfne : gf ≠ wo.heap.size := by have := HFx.out.lt; omega
              have hmn' : (m : Int) < (n : Int) := by omega
              have hcb := hb1.cell m
              rw [iC_at _ _ (by rw [partL_len]; exact hmn), partL_getD _ _ _ _ hmn, if_pos hmn] at hcb
              have hcx := HX.out.cell m
              rw [iC_at _ _ (by rw [partL_len]; exact hmn), partL_getD _ _ _ _ hmn, if_neg (Nat.lt_irrefl _)] at hcx
              have hfx := HX.out.free m
              by_cases hm0 : m = 0
              · subst hm0
                have HE := Lib.hid (memberL_zero j)
                obtain ⟨a, ha⟩ : ∃ a, (memberL j false).getD 0 0 = a := ⟨_, rfl⟩
                rw [ha] at hcb HE
                go_wp2_with fail
                go_roundw
                case rel =>
                  refine ⟨0 + 1, by go_num, by omega, Lib.hid ?_, Lib.hid (HZ.out.setCell (p := ⟨wo.heap.size, 0, none⟩) (Nat.le_refl _) _)⟩
                  have h1 := HX.out.put 0 (.int .i64 ((a : Nat) : Int))
                  rw [iC_set, ← HE.out, partL_set] at h1
                  rw [← HE.out]
                  exact h1
                case measure => simp [intOf]; omega
              · have HE := Lib.hid (memberL_next j m (by omega))
                have HA2 := Lib.hid (memberL_lt j m)
                have HC2 := Lib.hid (memberL_lt (j + 1) (m - 1))
                have hcf := hf1.cell (m - 1)
                rw [iC_at _ _ (by rw [partL_len]; omega), partL_getD _ _ _ _ (by omega), if_pos (by omega)] at hcf
                obtain ⟨a, ha⟩ : ∃ a, (memberL j false).getD m 0 = a := ⟨_, rfl⟩
                obtain ⟨c, hc⟩ : ∃ c, (memberL (j + 1) false).getD (m - 1) 0 = c := ⟨_, rfl⟩
                rw [ha] at hcb HE HA2
                rw [hc] at hcf HE HC2
                clear ha hc
                have hm1 : (0 : Int) < (m : Int) := by omega
                have hwm : IntKind.i64.wrap ((m : Int) - 1) = ((m - 1 : Nat) : Int) := by rw [IntWalk.i64_in _ (by omega)]; omega
                have hml : ((m - 1 : Nat) : Int) < (n : Int) := by omega
                have hmg : (0 : Int) ≤ ((m - 1 : Nat) : Int) := by omega
                go_wp2_with fail
                obtain ⟨w5, hw5⟩ : ∃ w5, wr.setCell ⟨wo.heap.size, m, none⟩ (.int .i64 ((a : Nat) : Int)) = w5 := ⟨_, rfl⟩
                have hX5 : Box w5 wo.heap.size 3 (iC ((partL (memberL (j + 2) false) n m).set m a)) := by
                  have h1 := HX.out.put m (.int .i64 ((a : Nat) : Int))
                  rw [iC_set] at h1
                  rw [← hw5]
                  exact h1
                have hb5 : w5.cell? ⟨gb, m, none⟩ = some (.int .i64 ((a : Nat) : Int)) := by rw [← hcb, ← hw5]; exact ((hb1.far (p := ⟨wo.heap.size, m, none⟩) hbne _).cell m).trans (hb1.cell m).symm
                have hf5 : w5.cell? ⟨gf, m - 1, none⟩ = some (.int .i64 ((c : Nat) : Int)) := by rw [← hcf, ← hw5]; exact ((hf1.far (p := ⟨wo.heap.size, m, none⟩) hfne _).cell (m - 1)).trans (hf1.cell (m - 1)).symm
                have HB5 := Lib.hid (show Box w5 gb 3 (iC (partL (memberL j false) n n)) by rw [← hw5]; exact hb1.far (p := ⟨wo.heap.size, m, none⟩) hbne _)
                have HF5 := Lib.hid (show Box w5 gf 3 (iC (partL (memberL (j + 1) false) n n)) by rw [← hw5]; exact hf1.far (p := ⟨wo.heap.size, m, none⟩) hfne _)
                have hx5 := hX5.cell m
                rw [iC_at _ _ (by rw [List.length_set, partL_len]; exact hmn)] at hx5
                have hy5 := hX5.free m
                have HX5 := Lib.hid hX5
                have HZ5 := Lib.hid (show Below wo.heap.size wo w5 by rw [← hw5]; exact HZ.out.setCell (p := ⟨wo.heap.size, m, none⟩) (Nat.le_refl _) _)
                rw [hw5]
                have ha2 := HA2.out
                have hc2 := HC2.out
                have hwa : IntKind.i64.wrap ((a : Int) + (c : Int)) = (a : Int) + (c : Int) := IntWalk.i64_in _ (by omega)
                clear hw5 hX5 hcb hcx hfx hcf hb1 hf1
                refine wp_region_held_drew (S := fun W => W.cell? ⟨gb, m, none⟩ = some (.int .i64 ((a : Nat) : Int)) ∧ W.cell? ⟨gf, m - 1, none⟩ = some (.int .i64 ((c : Nat) : Int))) (by kernel_rfl) ⟨hb5, hf5⟩ (fun hHeld => ?_)
                refine wpAnyH_take (i := 0) (v := ?_) rfl (by kernel_rfl) (by kernel_rfl) (by kernel_rfl) (fun _ _ _ h => h) (Or.inl ⟨by rfl, ?_⟩) (by assumption) ?_
                rotate_left
                · (intro w hSw; (try dsimp only at hSw); go_simp <;> (with_reducible rfl))
                try simp only [Act.put, List.setIfInBounds_toArray, List.set_cons_zero, List.set_cons_succ, List.getElem_toArray, List.getElem_cons_zero]
                refine wpAnyH_take (i := 1) (v := ?_) rfl (by kernel_rfl) (by kernel_rfl) (by kernel_rfl) (fun _ _ _ h => h) (Or.inl ⟨by rfl, ?_⟩) (by assumption) ?_
                rotate_left
                · (intro w hSw; (try dsimp only at hSw); go_simp <;> (with_reducible rfl))
                try simp only [Act.put, List.setIfInBounds_toArray, List.set_cons_zero, List.set_cons_succ, List.getElem_toArray, List.getElem_cons_zero, List.getElem_cons_succ]
                refine wpAnyH_take (i := 2) (v := ?_) rfl (by kernel_rfl) (by kernel_rfl) (by kernel_rfl) (fun _ _ _ h => h) (Or.inl ⟨by rfl, ?_⟩) (by assumption) ?_
                rotate_left
                · (intro w hSw; (try dsimp only at hSw); go_simp <;> (with_reducible rfl))
                try simp only [Act.put, List.setIfInBounds_toArray, List.set_cons_zero, List.set_cons_succ, List.getElem_toArray, List.getElem_cons_zero, List.getElem_cons_succ]
                refine wpAnyH_take (i := 3) (v := ?_) rfl (by kernel_rfl) (by kernel_rfl) (by kernel_rfl) (fun _ _ _ h => h) (Or.inl ⟨by rfl, ?_⟩) (by assumption) ?_
                rotate_left
                · (intro w hSw; (try dsimp only at hSw); go_simp <;> (with_reducible rfl))
                try simp only [Act.put, List.setIfInBounds_toArray, List.set_cons_zero, List.set_cons_succ, List.getElem_toArray, List.getElem_cons_zero, List.getElem_cons_succ]
                refine wpAnyH_take (i := 4) (v := ?_) rfl (by kernel_rfl) (by kernel_rfl) (by kernel_rfl) (fun _ _ _ h => h) (Or.inl ⟨by rfl, ?_⟩) (by assumption) ?_
                rotate_left
                · (intro w hSw; (try dsimp only at hSw); go_simp <;> (with_reducible rfl))
                try simp only [Act.put, List.setIfInBounds_toArray, List.set_cons_zero, List.set_cons_succ, List.getElem_toArray, List.getElem_cons_zero, List.getElem_cons_succ]
                refine wpAnyH_take (i := 5) (v := ?_) rfl (by kernel_rfl) (by kernel_rfl) (by kernel_rfl) (fun _ _ _ h => h) (Or.inl ⟨by rfl, ?_⟩) (by assumption) ?_
                rotate_left
                · (intro w hSw; (try dsimp only at hSw); go_simp <;> (with_reducible rfl))
                try simp only [Act.put, List.setIfInBounds_toArray, List.set_cons_zero, List.set_cons_succ, List.getElem_toArray, List.getElem_cons_zero, List.getElem_cons_succ]
                refine wpAnyH_take (i := 6) (v := ?_) rfl (by kernel_rfl) (by kernel_rfl) (by kernel_rfl) (fun _ _ _ h => h) (Or.inl ⟨by rfl, ?_⟩) (by assumption) ?_
                rotate_left
                · (intro w hSw; (try dsimp only at hSw); go_simp <;> (with_reducible rfl))
                try simp only [Act.put, List.setIfInBounds_toArray, List.set_cons_zero, List.set_cons_succ, List.getElem_toArray, List.getElem_cons_zero, List.getElem_cons_succ]
                refine wpAnyH_take (i := 7) (v := ?_) rfl (by kernel_rfl) (by kernel_rfl) (by kernel_rfl) (fun _ _ _ h => h) (Or.inl ⟨by rfl, ?_⟩) (by assumption) ?_
                rotate_left
                · (intro w hSw; (try dsimp only at hSw); go_simp <;> (with_reducible rfl))
                try simp only [Act.put, List.setIfInBounds_toArray, List.set_cons_zero, List.set_cons_succ, List.getElem_toArray, List.getElem_cons_zero, List.getElem_cons_succ]
                refine wpAnyH_take (i := 8) (v := ?_) rfl (by kernel_rfl) (by kernel_rfl) (by kernel_rfl) (fun _ _ _ h => h) (Or.inl ⟨by rfl, ?_⟩) (by assumption) ?_
                rotate_left
                · (intro w hSw; (try dsimp only at hSw); go_simp <;> (with_reducible rfl))
                try simp only [Act.put, List.setIfInBounds_toArray, List.set_cons_zero, List.set_cons_succ, List.getElem_toArray, List.getElem_cons_zero, List.getElem_cons_succ]
                refine wpAnyH_take (i := 9) (v := ?_) rfl (by kernel_rfl) (by kernel_rfl) (by kernel_rfl) (fun _ _ _ h => h) (Or.inl ⟨by rfl, ?_⟩) (by assumption) ?_
                rotate_left
                · (intro w hSw; (try dsimp only at hSw); go_simp <;> (with_reducible rfl))
                try simp only [Act.put, List.setIfInBounds_toArray, List.set_cons_zero, List.set_cons_succ, List.getElem_toArray, List.getElem_cons_zero, List.getElem_cons_succ]
                refine wpAnyH_take (i := 10) (v := ?_) rfl (by kernel_rfl) (by kernel_rfl) (by kernel_rfl) (fun _ _ _ h => h) (Or.inl ⟨by rfl, ?_⟩) (by assumption) ?_
                rotate_left
                · (intro w hSw; (try dsimp only at hSw); go_simp <;> (with_reducible rfl))
                try simp only [Act.put, List.setIfInBounds_toArray, List.set_cons_zero, List.set_cons_succ, List.getElem_toArray, List.getElem_cons_zero, List.getElem_cons_succ]
                refine wpAnyH_take (i := 11) (v := ?_) rfl (by kernel_rfl) (by kernel_rfl) (by kernel_rfl) (fun _ _ _ h => h) (Or.inl ⟨by rfl, ?_⟩) (by assumption) ?_
                rotate_left
                · (intro w hSw; (try dsimp only at hSw); go_simp <;> (with_reducible rfl))
                try simp only [Act.put, List.setIfInBounds_toArray, List.set_cons_zero, List.set_cons_succ, List.getElem_toArray, List.getElem_cons_zero, List.getElem_cons_succ]
                refine wpAnyH_take (i := 12) (v := ?_) rfl (by kernel_rfl) (by kernel_rfl) (by kernel_rfl) (fun _ _ _ h => h) (Or.inl ⟨by rfl, ?_⟩) (by assumption) ?_
                rotate_left
                · (intro w hSw; (try dsimp only at hSw); go_simp <;> (with_reducible rfl))
                try simp only [Act.put, List.setIfInBounds_toArray, List.set_cons_zero, List.set_cons_succ, List.getElem_toArray, List.getElem_cons_zero, List.getElem_cons_succ]
                refine wpAnyH_take (i := 13) (v := ?_) rfl (by kernel_rfl) (by kernel_rfl) (by kernel_rfl) (fun _ _ _ h => h) (Or.inl ⟨by rfl, ?_⟩) (by assumption) ?_
                rotate_left
                · (intro w hSw; (try dsimp only at hSw); go_simp <;> (with_reducible rfl))
                try simp only [Act.put, List.setIfInBounds_toArray, List.set_cons_zero, List.set_cons_succ, List.getElem_toArray, List.getElem_cons_zero, List.getElem_cons_succ]
                refine wpAnyH_ready (rs := [14]) (by kernel_rfl) (by simp) ?_
                refine AllReadyH.cons rfl (fun K hK => ?_) AllReadyH.nil
                go_simp
                refine hK.out _ _ ?_ (fun hHeld => ?_)
                · exact ⟨((HB5.out.far (p := ⟨wo.heap.size, m, none⟩) hbne _).cell m).trans ((HB5.out.cell m).symm.trans hb5), ((HF5.out.far (p := ⟨wo.heap.size, m, none⟩) hfne _).cell (m - 1)).trans ((HF5.out.cell (m - 1)).symm.trans hf5)⟩
                clear hK K
                try simp only [Act.put, List.setIfInBounds_toArray, List.set_cons_zero, List.set_cons_succ, List.getElem_toArray, List.getElem_cons_zero, List.getElem_cons_succ]
                refine wpAnyH_done (by kernel_rfl) ?_ _
                go_wp2_with fail
                go_roundw
                case rel =>
                  refine ⟨m + 1, by go_num, by omega, Lib.hid ?_, Lib.hid (HZ5.out.setCell (p := ⟨wo.heap.size, m, none⟩) (Nat.le_refl _) _).drew⟩
                  have h1 := HX5.out.put m (.int .i64 (((a + c) % 2 : Nat) : Int))
                  rw [iC_set, List.set_set, ← HE.out, partL_set] at h1
                  rw [show ((a : Int) + (c : Int)) % 2 = (((memberL (j + 2) false).getD m 0 : Nat) : Int) by rw [HE.out]; omega]
                  exact h1
                case measure => simp [intOf]; omega
            · obtain rfl : m = n := by omega
              go_wp2_with fail
              go_roundw
              case rel =>
                refine ⟨j + 1, gf, wo.heap.size, by go_num, by omega, rfl, rfl, Lib.hid (HFx.out.below HZ.out HFx.out.lt), HX, Lib.hid (HWx.out.trans (HZ.out.mono hwr))⟩
              case measure => simp [intOf]; omega
        · obtain rfl : k = j + 1 := by omega
          go_wp2_with fail
          go_ret
          exact ⟨gf, n, by rw [hn]; rfl, by rw [hn]; exact HFx.out, HWx.out⟩
end Go.Proofs.Ytpdgjjpfahobaaa
