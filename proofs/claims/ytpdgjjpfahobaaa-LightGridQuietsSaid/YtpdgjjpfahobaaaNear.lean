/- The reference's Near: the table of what each lamp switches is the program's. -/
import Derived.Test.YtpdgjjpfahobaaaRPoly
import Derived.Test.YtpdgjjpfahobaaaLampB
namespace Go.Proofs.Ytpdgjjpfahobaaa
open Go.RowKit Lamp

/-- The powers of 2, of n lamps. -/
def powL (n : Nat) : List Nat := (List.range n).map fun i => 2 ^ i
theorem powL_at {n i : Nat} (h : i < n) : (powL n).getD i 0 = 2 ^ i := by simp [powL, List.getD_eq_getElem?_getD, h]
/-- The table after the first k edges. -/
def nearK (s : List Nat) (l : List (Int × Int)) : Nat → List Nat
  | 0 => s
  | k + 1 => swStep (nearK s l k) (l.getD k (0, 0)).1.toNat (l.getD k (0, 0)).2.toNat
theorem nearK_len (s : List Nat) (l : List (Int × Int)) (k : Nat) : (nearK s l k).length = s.length := by
  induction k with
  | zero => rfl
  | succ k ih => rw [nearK, swStep_len, ih]
theorem nearK_bit {n : Nat} {s : List Nat} (hs : s.length = n) {l : List (Int × Int)} {m : Nat} (hg : goodK (n : Int) l m = true) (i j : Nat) : ∀ k, k ≤ m → ((nearK s l k).getD i 0).testBit j = ((s.getD i 0).testBit j || joined l k i j)
  | 0, _ => by simp [nearK, joined]
  | k + 1, h => by
    have he := edge_toNat (goodK_edge hg (k := k) (by omega))
    unfold nearK joined
    rw [swStep_bit (by rw [nearK_len, hs]; omega) (by rw [nearK_len, hs]; omega) (by omega), nearK_bit hs hg i j k (by omega), Bool.or_assoc, Bool.or_assoc, Bool.or_assoc]
theorem nearK_lt {n : Nat} (hn : n ≤ 16) {s : List Nat} (hs : ∀ x ∈ s, x < 65536) {l : List (Int × Int)} {m : Nat} (hg : goodK (n : Int) l m = true) : ∀ k, k ≤ m → ∀ x ∈ nearK s l k, x < 65536
  | 0, _ => hs
  | k + 1, h => by
    have he := edge_toNat (goodK_edge hg (k := k) (by omega))
    exact swStep_lt (nearK_lt hn hs hg k (by omega)) (by omega) (by omega)
theorem list_same {a b : List Nat} (hl : a.length = b.length) (h : ∀ i, a.getD i 0 = b.getD i 0) : a = b := by
  apply List.ext_getElem hl
  intro i h1 h2
  have := h i
  simpa [List.getD_eq_getElem?_getD, h1, h2] using this
theorem partL_pow_lt {n : Nat} (hn : n ≤ 16) (k : Nat) : ∀ x ∈ partL (powL n) n k, x < 65536 := by
  intro x hx
  obtain ⟨i, hi, rfl⟩ := List.mem_map.1 hx
  have hin := List.mem_range.1 hi
  split
  · rw [powL_at hin]; exact pow_lt16 (by omega)
  · decide
theorem near_is {n : Nat} (hn : n ≤ 16) {l : List (Int × Int)} (hg : goodK (n : Int) l l.length = true) (own : Bool) : nearK (partL (powL n) n (if own then n else 0)) l l.length = grL n l own := by
  refine list_same (by rw [nearK_len, partL_len, grL_len hn]) fun i => ?_
  apply Nat.eq_of_testBit_eq
  intro j
  rw [nearK_bit (partL_len _ _ _) hg i j _ (Nat.le_refl _), grL_bit hn hg]
  rw [Bool.or_comm]
  congr 1
  by_cases hi : i < n
  · rw [partL_getD _ _ _ _ hi, powL_at hi]
    cases own
    · simp
    · simp [hi, Nat.testBit_two_pow]
  · rw [getD_out (by rw [partL_len]; omega)]
    simp [hi]

theorem box_reads {w : World} {g : Nat} {s : List Nat} (h : Box w g 3 (iC s)) : RInts w w.heap.size (some ⟨g, 0, none⟩) (natV s) := fun j u hu => by
  refine ⟨g, 0, rfl, h.lt, ?_⟩
  rw [Nat.zero_add, h.cell j, ← hu]
  simp only [iC, natV, List.map_map, List.getElem?_toArray]
  rfl
theorem iC_put {w : World} {g : Nat} {s : List Nat} (h : Box w g 3 (iC s)) (i v : Nat) (u : Int) (hu : u = (v : Int)) : Box (w.setCell ⟨g, i, none⟩ (.int .i64 u)) g 3 (iC (s.set i v)) := by
  rw [hu, ← iC_set]; exact h.put _ _

set_option maxRecDepth 100000 in
set_option maxHeartbeats 4000000 in
theorem Near_any (A : Option Addr) (n : Nat) (l : List (Int × Int)) (c : Nat) (own : Bool) (w : World) (h : Gr w A n l) :
    Calls Try.prog 35 #[.int .i64 n, .slice A l.length c, .bool own] w fun e w' => e = .returned (.slice (some ⟨w.heap.size, 0, none⟩) n n) ∧ Box w' w.heap.size 3 (iC (grL n l own)) ∧ Below w.heap.size w w' := by
  have hmk := make_ic n (by have := h.most; omega) w
  have HR := Lib.hid h.reads
  have HG := Lib.hid h.good
  have hn := h.most
  have hn1 := h.pos
  have HNE := Lib.hid (near_is h.most h.good own)
  have hl := h.len
  have hn0 : (0 : Int) < (n : Int) := by omega
  clear h
  cases own
  · go_enter Try.func35, Try.ntmps35
    go_wp2_with fail
    clear hmk
    go_loopw [8] (fun i wr => i = .int .i64 0 ∧ Hid (Box wr w.heap.size 3 (iC (partL (powL n) n 0))) ∧ Hid (Below w.heap.size w wr)) (fun _ _ => 0)
    case atStart => exact ⟨rfl, Lib.hid (by rw [partL_zero]; exact Box.new w _ _), Lib.hid ((Below.refl _ w).alloc (Nat.le_refl _) _)⟩
    case round =>
      obtain ⟨rfl, HX1, HB1⟩ := hrel
      have HX := HX1
      have HB := HB1
      clear HX1 HB1
      obtain ⟨wo, rfl⟩ : ∃ wo : World, wo = wr := ⟨_, rfl⟩
      go_wp2_with fail
      go_loopw [9] (fun i ws => ∃ k : Nat, i = .int .i64 k ∧ k ≤ l.length ∧ Hid (Box ws w.heap.size 3 (iC (nearK (partL (powL n) n 0) l k))) ∧ Hid (Below w.heap.size w ws)) (fun i _ => l.length - (intOf i).toNat)
      case atStart => exact ⟨0, rfl, by omega, HX, HB⟩
      case round =>
        obtain ⟨k, rfl, hk, HX1, HB1⟩ := hrel
        have HX2 := HX1
        have HB2 := HB1
        clear HX1 HB1 HX HB
        by_cases hlt : k < l.length
        · obtain ⟨b, o, x, y, hA, hb, hx, hc1, hc2⟩ := (HR.out.keep HB2.out).at_ hlt
          subst hA
          have he := goodK_at HG.out hlt
          have HXY := Lib.hid (show l.getD k (0, 0) = (x, y) by rw [List.getD_eq_getElem?_getD, hx]; rfl)
          rw [HXY.out] at he
          obtain ⟨i, j, rfl, rfl, hij, hjn⟩ := edge_nat he
          clear hx he
          go_upto_region 9 with fail
          go_quiet (fail)
          go_upto_region 10 with fail
          obtain ⟨W1, hw1⟩ : ∃ W1, wr.drewN nq = W1 := ⟨_, rfl⟩
          have hx1 : Box W1 w.heap.size 3 (iC (nearK (partL (powL n) n 0) l k)) := by rw [← hw1]; exact HX2.out.drewN _
          have HB1 := Lib.hid (show Below w.heap.size w W1 by rw [← hw1]; exact below_drewN HB2.out _)
          rw [hw1]
          clear hw1 HX2 HB2 hc1 hc2
          have hsl : (nearK (partL (powL n) n 0) l k).length = n := by rw [nearK_len, partL_len]
          have HLT := Lib.hid (nearK_lt hn (partL_pow_lt hn _) HG.out k hk : ∀ x ∈ nearK (partL (powL n) n 0) l k, x < 65536)
          have hin : (i : Int) < (n : Int) := by omega
          have hjn' : (j : Int) < (n : Int) := by omega
          have hi16 : (i : Int) < 16 := by omega
          have hj16 : (j : Int) < 16 := by omega
          obtain ⟨a, HA⟩ : ∃ a, Hid (a = (nearK (partL (powL n) n 0) l k).getD i 0) := ⟨_, Lib.hid rfl⟩
          have HAL := Lib.hid (show a < 65536 by rw [HA.out]; exact getD_lt HLT.out (by decide) i)
          have hci := hx1.cell i
          rw [iC_at _ _ (by rw [hsl]; omega), ← HA.out] at hci
          have hfi := hx1.free i
          have HX1 := Lib.hid hx1
          have HSL := Lib.hid hsl
          clear hx1 hsl
          go_region
          clear hci hfi
          go_upto_region 11 with fail
          obtain ⟨W2, hw2⟩ : ∃ W2, (W1.setCell ⟨w.heap.size, i, none⟩ (Value.int IntKind.i64 (bits BinOp.or IntKind.i64 (a : Int) (wrap64 (2 ^ j))))).drew = W2 := ⟨_, rfl⟩
          have hx2 : Box W2 w.heap.size 3 (iC ((nearK (partL (powL n) n 0) l k).set i (a ||| 2 ^ j))) := by rw [← hw2]; exact (iC_put HX1.out i _ _ (or_bit HAL.out (by omega))).drewN 1
          have HB2 := Lib.hid (show Below w.heap.size w W2 by rw [← hw2]; exact below_drewN (HB1.out.setCell (p := ⟨w.heap.size, i, none⟩) (Nat.le_refl _) _) 1)
          rw [hw2]
          clear hw2 HX1 HB1
          obtain ⟨d, HD⟩ : ∃ d, Hid (d = ((nearK (partL (powL n) n 0) l k).set i (a ||| 2 ^ j)).getD j 0) := ⟨_, Lib.hid rfl⟩
          have HDL := Lib.hid (show d < 65536 by rw [HD.out]; exact getD_lt (set_lt HLT.out (or_lt HAL.out (pow_lt16 (by omega)))) (by decide) j)
          have hcj := hx2.cell j
          rw [iC_at _ _ (by rw [List.length_set, HSL.out]; omega), ← HD.out] at hcj
          have hfj := hx2.free j
          have HX2 := Lib.hid hx2
          clear hx2
          go_region
          clear hcj hfj
          go_wp2_with fail
          go_roundw
          case rel =>
            refine ⟨k + 1, by go_num, by omega, Lib.hid ?_, Lib.hid ?_⟩
            · have h3 := (iC_put HX2.out j _ _ (or_bit HDL.out (show i < 16 by omega))).drewN 1
              have h4 : nearK (partL (powL n) n 0) l (k + 1) = ((nearK (partL (powL n) n 0) l k).set i (a ||| 2 ^ j)).set j (d ||| 2 ^ i) := by
                rw [nearK, HXY.out, HD.out, HA.out]; rfl
              rw [h4]
              exact h3
            · exact below_drewN (HB2.out.setCell (p := ⟨w.heap.size, j, none⟩) (Nat.le_refl _) _) 1
          case measure => simp [intOf]; omega
        · obtain rfl : k = l.length := by omega
          go_wp2_with fail
          go_ret
          refine ⟨rfl, ?_, HB2.out⟩
          rw [← HNE.out]
          exact HX2.out
  · go_enter Try.func35, Try.ntmps35
    go_wp2_with fail
    clear hmk
    go_loopw [8] (fun i wr => ∃ m : Nat, i = .int .i64 m ∧ m ≤ n ∧ Hid (Box wr w.heap.size 3 (iC (partL (powL n) n m))) ∧ Hid (Below w.heap.size w wr)) (fun i _ => n - (intOf i).toNat)
    case atStart => exact ⟨0, rfl, by omega, Lib.hid (by rw [partL_zero]; exact Box.new w _ _), Lib.hid ((Below.refl _ w).alloc (Nat.le_refl _) _)⟩
    case round =>
      obtain ⟨m, rfl, hm, HX1, HB1⟩ := hrel
      have HX := HX1
      have HB := HB1
      clear HX1 HB1
      by_cases hmn : m < n
      · have hm16 : (m : Int) < 16 := by omega
        have hmn' : (m : Int) < (n : Int) := by omega
        have hcm := HX.out.cell m
        rw [iC_at _ _ (by rw [partL_len]; exact hmn)] at hcm
        have hfm := HX.out.free m
        go_wp2_with fail
        clear hcm hfm
        go_roundw
        case rel =>
          refine ⟨m + 1, by go_num, by omega, Lib.hid ?_, Lib.hid (HB.out.setCell (p := ⟨w.heap.size, m, none⟩) (Nat.le_refl _) _)⟩
          have h1 := iC_put HX.out m _ _ (shl_one m (by omega)).2
          have h2 := partL_set (powL n) n m
          rw [powL_at hmn] at h2
          rw [h2] at h1
          exact h1
        case measure => simp [intOf]; omega
      · obtain rfl : m = n := by omega
        obtain ⟨wo, rfl⟩ : ∃ wo : World, wo = wr := ⟨_, rfl⟩
        go_wp2_with fail
        go_loopw [9] (fun i ws => ∃ k : Nat, i = .int .i64 k ∧ k ≤ l.length ∧ Hid (Box ws w.heap.size 3 (iC (nearK (partL (powL m) m m) l k))) ∧ Hid (Below w.heap.size w ws)) (fun i _ => l.length - (intOf i).toNat)
        case atStart => exact ⟨0, rfl, by omega, HX, HB⟩
        case round =>
          obtain ⟨k, rfl, hk, HX1, HB1⟩ := hrel
          have HX2 := HX1
          have HB2 := HB1
          clear HX1 HB1 HX HB
          by_cases hlt : k < l.length
          · obtain ⟨b, o, x, y, hA, hb, hx, hc1, hc2⟩ := (HR.out.keep HB2.out).at_ hlt
            subst hA
            have he := goodK_at HG.out hlt
            have HXY := Lib.hid (show l.getD k (0, 0) = (x, y) by rw [List.getD_eq_getElem?_getD, hx]; rfl)
            rw [HXY.out] at he
            obtain ⟨i, j, rfl, rfl, hij, hjn⟩ := edge_nat he
            clear hx he
            go_upto_region 9 with fail
            go_quiet (fail)
            go_upto_region 10 with fail
            obtain ⟨W1, hw1⟩ : ∃ W1, wr.drewN nq = W1 := ⟨_, rfl⟩
            have hx1 : Box W1 w.heap.size 3 (iC (nearK (partL (powL m) m m) l k)) := by rw [← hw1]; exact HX2.out.drewN _
            have HB1 := Lib.hid (show Below w.heap.size w W1 by rw [← hw1]; exact below_drewN HB2.out _)
            rw [hw1]
            clear hw1 HX2 HB2 hc1 hc2
            have hsl : (nearK (partL (powL m) m m) l k).length = m := by rw [nearK_len, partL_len]
            have HLT := Lib.hid (nearK_lt hn (partL_pow_lt hn _) HG.out k hk : ∀ x ∈ nearK (partL (powL m) m m) l k, x < 65536)
            have hin : (i : Int) < (m : Int) := by omega
            have hjn' : (j : Int) < (m : Int) := by omega
            have hi16 : (i : Int) < 16 := by omega
            have hj16 : (j : Int) < 16 := by omega
            obtain ⟨a, HA⟩ : ∃ a, Hid (a = (nearK (partL (powL m) m m) l k).getD i 0) := ⟨_, Lib.hid rfl⟩
            have HAL := Lib.hid (show a < 65536 by rw [HA.out]; exact getD_lt HLT.out (by decide) i)
            have hci := hx1.cell i
            rw [iC_at _ _ (by rw [hsl]; omega), ← HA.out] at hci
            have hfi := hx1.free i
            have HX1 := Lib.hid hx1
            have HSL := Lib.hid hsl
            clear hx1 hsl
            go_region
            clear hci hfi
            go_upto_region 11 with fail
            obtain ⟨W2, hw2⟩ : ∃ W2, (W1.setCell ⟨w.heap.size, i, none⟩ (Value.int IntKind.i64 (bits BinOp.or IntKind.i64 (a : Int) (wrap64 (2 ^ j))))).drew = W2 := ⟨_, rfl⟩
            have hx2 : Box W2 w.heap.size 3 (iC ((nearK (partL (powL m) m m) l k).set i (a ||| 2 ^ j))) := by rw [← hw2]; exact (iC_put HX1.out i _ _ (or_bit HAL.out (by omega))).drewN 1
            have HB2 := Lib.hid (show Below w.heap.size w W2 by rw [← hw2]; exact below_drewN (HB1.out.setCell (p := ⟨w.heap.size, i, none⟩) (Nat.le_refl _) _) 1)
            rw [hw2]
            clear hw2 HX1 HB1
            obtain ⟨d, HD⟩ : ∃ d, Hid (d = ((nearK (partL (powL m) m m) l k).set i (a ||| 2 ^ j)).getD j 0) := ⟨_, Lib.hid rfl⟩
            have HDL := Lib.hid (show d < 65536 by rw [HD.out]; exact getD_lt (set_lt HLT.out (or_lt HAL.out (pow_lt16 (by omega)))) (by decide) j)
            have hcj := hx2.cell j
            rw [iC_at _ _ (by rw [List.length_set, HSL.out]; omega), ← HD.out] at hcj
            have hfj := hx2.free j
            have HX2 := Lib.hid hx2
            clear hx2
            go_region
            clear hcj hfj
            go_wp2_with fail
            go_roundw
            case rel =>
              refine ⟨k + 1, by go_num, by omega, Lib.hid ?_, Lib.hid ?_⟩
              · have h3 := (iC_put HX2.out j _ _ (or_bit HDL.out (show i < 16 by omega))).drewN 1
                have h4 : nearK (partL (powL m) m m) l (k + 1) = ((nearK (partL (powL m) m m) l k).set i (a ||| 2 ^ j)).set j (d ||| 2 ^ i) := by
                  rw [nearK, HXY.out, HD.out, HA.out]; rfl
                rw [h4]
                exact h3
              · exact below_drewN (HB2.out.setCell (p := ⟨w.heap.size, j, none⟩) (Nat.le_refl _) _) 1
            case measure => simp [intOf]; omega
          · obtain rfl : k = l.length := by omega
            go_wp2_with fail
            go_ret
            refine ⟨rfl, ?_, HB2.out⟩
            rw [← HNE.out]
            exact HX2.out
end Go.Proofs.Ytpdgjjpfahobaaa
