/- The graph of package light in memory: the effect of a set, the graph of edges. -/
import Derived.Test.YthbhengcinkepaaLig3
import Derived.RegionTactic
import Derived.Great.BuildSlice
namespace Go.Proofs.Ythbhengcinkepaa.Lig
open Go.RowKit Lamp
/-- The cells of a graph. -/
def gCells (n : Nat) (sw : List Nat) : Array Value := (Value.int .i64 n :: (natV sw).map (Value.int .i64)).toArray
theorem gCells_0 (n : Nat) (sw : List Nat) : (gCells n sw)[0]? = some (.int .i64 n) := by simp [gCells]
theorem gCells_succ (n : Nat) (sw : List Nat) (k : Nat) : (gCells n sw)[1 + k]? = (natV sw)[k]?.map (Value.int .i64) := by rw [Nat.add_comm]; simp [gCells]
theorem gCells_size (n : Nat) (sw : List Nat) : (gCells n sw).size = sw.length + 1 := by simp [gCells, natV]
/-- The sets of a graph's cells, as a slice. -/
theorem gBox_reads {w : World} {g n : Nat} {sw : List Nat} (h : Box w g 136 (gCells n sw)) (m : Nat) : RInts w (g + 1) (some ⟨g, 1, none⟩) (natV (sw.take m)) := fun j u hu => by
  refine ⟨g, 1, rfl, by omega, ?_⟩
  rw [h.cell (1 + j), gCells_succ]
  rw [List.getElem?_map] at hu
  obtain ⟨x, hx, rfl⟩ := Option.map_eq_some_iff.1 hu
  simp only [natV, List.getElem?_map, Option.map_eq_some_iff] at hx ⊢
  obtain ⟨y, hy, rfl⟩ := hx
  rw [List.getElem?_take] at hy
  split at hy
  · exact ⟨_, ⟨y, hy, rfl⟩, rfl⟩
  · cases hy

theorem effect_any (n p : Nat) (sw : List Nat) (w : World) (hl : sw.length = 16) (hn : n ≤ 16) (hs : ∀ x ∈ sw, x < 65536) (hp : p < 65536) :
    Calls Try.prog 86 #[.agg (gCells n sw), .int .i64 p] w fun e w' => e = .returned (.int .i64 ((comb p (sw.take n) : Nat) : Int)) ∧ Below w.heap.size w w' := by
  have HR := Lib.hid (gBox_reads (Box.new w 136 (gCells n sw)) n)
  have hg0 := gCells_0 n sw
  have HL := Lib.hid hl
  have HS := Lib.hid hs
  have hn' : (n : Int) ≤ 16 := by omega
  have HT := Lib.hid (show (sw.take n).length = n by rw [List.length_take, hl]; omega)
  clear hl hs
  go_enter Try.func86, Try.ntmps86
  go_wp2_with fail
  refine (combined_any _ p (sw.take n) n _ _ _ HT.out.symm HR.out (by rw [HT.out]; omega) (by omega) (fun x hx => by have := HS.out x (List.mem_of_mem_take hx); omega)).mono ?_
  rintro e w' ⟨rfl, rfl⟩
  go_wp2_with fail
  go_ret
  exact ⟨rfl, (Below.refl _ _).alloc (Nat.le_refl _) _⟩

def swStep (sw : List Nat) (i j : Nat) : List Nat := (sw.set i (sw.getD i 0 ||| 2 ^ j)).set j ((sw.set i (sw.getD i 0 ||| 2 ^ j)).getD j 0 ||| 2 ^ i)
def swK (l : List (Int × Int)) : Nat → List Nat
  | 0 => List.replicate 16 0
  | k + 1 => swStep (swK l k) (l.getD k (0, 0)).1.toNat (l.getD k (0, 0)).2.toNat
def ownK (sw : List Nat) : Nat → List Nat
  | 0 => sw
  | k + 1 => (ownK sw k).set k ((ownK sw k).getD k 0 ||| 2 ^ k)
def graphL (n : Nat) (l : List (Int × Int)) (own : Bool) : List Nat := if own then ownK (swK l l.length) n else swK l l.length

theorem natV_getD {s : List Nat} {i : Nat} (h : i < s.length) : (natV s)[i]? = some ((s.getD i 0 : Nat) : Int) := by
  simp [natV, List.getElem?_eq_getElem h]
theorem swStep_len (sw : List Nat) (i j : Nat) : (swStep sw i j).length = sw.length := by simp [swStep]
theorem swK_len (l : List (Int × Int)) (k : Nat) : (swK l k).length = 16 := by
  induction k with
  | zero => simp [swK]
  | succ k ih => rw [swK, swStep_len, ih]
theorem or_lt {a b : Nat} (ha : a < 65536) (hb : b < 65536) : a ||| b < 65536 := Nat.or_lt_two_pow (n := 16) ha hb
theorem pow_lt16 {i : Nat} (h : i < 16) : 2 ^ i < 65536 := Nat.pow_lt_pow_right (n := 16) (by decide) h
theorem set_lt {s : List Nat} (hs : ∀ x ∈ s, x < 65536) {i v : Nat} (hv : v < 65536) : ∀ x ∈ s.set i v, x < 65536 := fun x hx => by
  rcases List.mem_or_eq_of_mem_set hx with h | h
  · exact hs x h
  · rw [h]; exact hv
theorem swStep_lt {s : List Nat} (hs : ∀ x ∈ s, x < 65536) {i j : Nat} (hi : i < 16) (hj : j < 16) : ∀ x ∈ swStep s i j, x < 65536 := by
  have h1 := set_lt hs (i := i) (or_lt (getD_lt hs (by decide) i) (pow_lt16 hj))
  exact set_lt h1 (or_lt (getD_lt h1 (by decide) j) (pow_lt16 hi))
theorem goodK_at {n : Int} {l : List (Int × Int)} {m k : Nat} (h : goodK n l m = true) (hk : k < m) : edgeB n (l.getD k (0, 0)) = true := by
  cases h2 : goodK n l (k + 1)
  · rw [goodK_le hk h2] at h; cases h
  · unfold goodK at h2
    simp only [Bool.and_eq_true] at h2
    exact h2.2.1
theorem edge_nat {n : Nat} {x y : Int} (h : edgeB n (x, y) = true) : ∃ i j : Nat, x = i ∧ y = j ∧ i < j ∧ j < n := by
  simp only [edgeB, Bool.and_eq_true, decide_eq_true_eq] at h
  exact ⟨x.toNat, y.toNat, by omega, by omega, by omega, by omega⟩

theorem swK_lt {n : Nat} {l : List (Int × Int)} {m : Nat} (hn : n ≤ 16) (h : goodK n l m = true) (k : Nat) (hk : k ≤ m) : ∀ x ∈ swK l k, x < 65536 := by
  induction k with
  | zero => intro x hx; simp [swK] at hx; omega
  | succ k ih =>
    have he := goodK_at h (k := k) (by omega)
    obtain ⟨i, j, h1, h2, hij, hjn⟩ := edge_nat (x := (l.getD k (0, 0)).1) (y := (l.getD k (0, 0)).2) he
    rw [swK, h1, h2]
    exact swStep_lt (ih (by omega)) (by omega) (by omega)
theorem shl_one (j : Nat) (h : j < 16) : IntKind.i64.wrap ((1 : Int) * 2 ^ j) = ((2 ^ j : Nat) : Int) ∧ wrap64 (2 ^ j) = ((2 ^ j : Nat) : Int) := by
  have h1 := pow_int (m := j) (by omega)
  have h2 : ((2 ^ j : Nat) : Int) = (2 : Int) ^ j := by simp
  rw [h2]
  exact ⟨by rw [Int.one_mul]; exact IntWalk.i64_in _ (by omega), w64 (by omega)⟩
theorem or_bit {a j : Nat} (ha : a < 65536) (hj : j < 16) : bits BinOp.or IntKind.i64 (a : Int) (wrap64 (2 ^ j)) = ((a ||| 2 ^ j : Nat) : Int) := by
  have h1 := pow_lt16 hj
  rw [(shl_one j hj).2, i64_or a (2 ^ j) (by omega) (by omega)]
/-- One cell of a graph set anew. -/
theorem gCells_set (n : Nat) (sw : List Nat) (i v : Nat) : (gCells n sw).setIfInBounds (1 + i) (.int .i64 (v : Nat)) = gCells n (sw.set i v) := by
  unfold gCells natV
  rw [List.setIfInBounds_toArray, Nat.add_comm, List.set_cons_succ, List.map_set, List.map_set]
theorem gBox_put {w : World} {g n : Nat} {sw : List Nat} (h : Box w g 136 (gCells n sw)) (i v : Nat) (u : Int) (hu : u = (v : Int)) : Box (w.setCell ⟨g, 1 + i, none⟩ (.int .i64 u)) g 136 (gCells n (sw.set i v)) := by
  rw [hu, ← gCells_set]; exact h.put _ _
theorem gBox_at {w : World} {g n : Nat} {sw : List Nat} (h : Box w g 136 (gCells n sw)) {i : Nat} (hi : i < sw.length) : w.cell? ⟨g, 1 + i, none⟩ = some (.int .i64 (sw.getD i 0 : Nat)) := by
  rw [h.cell, gCells_succ, natV_getD hi]; rfl

theorem gCells_one (n : Nat) (sw : List Nat) : (gCells n sw).all (·.oneCell') = true := by
  rw [Array.all_eq_true_iff_forall_mem]
  intro v hv
  simp only [gCells, List.mem_toArray, List.mem_cons, List.mem_map] at hv
  rcases hv with rfl | ⟨x, _, rfl⟩ <;> rfl
theorem below_setRowG {B : Nat} {a w : World} (h : Below B a w) {g : Nat} (hg : B ≤ g) (cs : Array Value) : Below B a (w.setRow g cs) := by
  refine ⟨h.os, h.tape, h.output, by rw [size_setRow]; exact h.size, fun i hi => ?_⟩
  rw [← h.block i hi]
  simp only [World.setRow, Array.getElem?_modify]
  rw [if_neg (by omega)]

theorem ownK_len (sw : List Nat) (k : Nat) : (ownK sw k).length = sw.length := by
  induction k with
  | zero => rfl
  | succ k ih => rw [ownK, List.length_set, ih]
theorem ownK_lt {sw : List Nat} (h : ∀ x ∈ sw, x < 65536) (k : Nat) (hk : k ≤ 16) : ∀ x ∈ ownK sw k, x < 65536 := by
  induction k with
  | zero => exact h
  | succ k ih => exact set_lt (ih (by omega)) (or_lt (getD_lt (ih (by omega)) (by decide) k) (pow_lt16 (by omega)))
set_option maxHeartbeats 1000000 in
theorem graphOf_any (A : Option Addr) (n : Nat) (l : List (Int × Int)) (c : Nat) (own : Bool) (w : World) (hr : REdges w w.heap.size A l) (hl : l.length ≤ 1000000) (hg : goodK n l l.length = true) (hn : n ≤ 16) :
    Calls Try.prog 84 #[.int .i64 n, .slice A l.length c, .bool own] w fun e w' => e = .returned (.agg (gCells n (graphL n l own))) ∧ Below w.heap.size w w' := by
  have HR := Lib.hid hr
  have HG := Lib.hid hg
  have hn' : (n : Int) ≤ 16 := by omega
  clear hr hg
  go_enter Try.func84, Try.ntmps84
  go_wp2_with fail
  go_loopw [17] (fun i wr => ∃ k : Nat, i = .int .i64 k ∧ k ≤ l.length ∧ Hid (Below w.heap.size w wr) ∧ Hid (∃ cs, cs.size = 17 ∧ Box wr w.heap.size 136 cs) ∧ Hid (Box wr (w.heap.size + 1) 136 (gCells n (swK l k)))) (fun i _ => l.length - (intOf i).toNat)
  case atStart =>
    refine ⟨0, rfl, by omega, Lib.hid (((Below.refl _ _).alloc (Nat.le_refl _) _).alloc (by simp) _), Lib.hid ⟨_, rfl, (Box.new w _ _).alloc _⟩, Lib.hid ?_⟩
    have h := Box.new (w.alloc (Obj.cells #[Value.int .i64 0, Value.int .i64 0, Value.int .i64 0, Value.int .i64 0, Value.int .i64 0, Value.int .i64 0, Value.int .i64 0, Value.int .i64 0, Value.int .i64 0, Value.int .i64 0, Value.int .i64 0, Value.int .i64 0, Value.int .i64 0, Value.int .i64 0, Value.int .i64 0, Value.int .i64 0, Value.int .i64 0] 136)) 136 (gCells n (swK l 0))
    rw [show (w.alloc (Obj.cells #[Value.int .i64 0, Value.int .i64 0, Value.int .i64 0, Value.int .i64 0, Value.int .i64 0, Value.int .i64 0, Value.int .i64 0, Value.int .i64 0, Value.int .i64 0, Value.int .i64 0, Value.int .i64 0, Value.int .i64 0, Value.int .i64 0, Value.int .i64 0, Value.int .i64 0, Value.int .i64 0, Value.int .i64 0] 136)).heap.size = w.heap.size + 1 by simp] at h
    exact h
  case round =>
    obtain ⟨k, rfl, hk, HB1, HO1, HX1⟩ := hrel
    have HB := HB1
    have HO := HO1
    have HX := HX1
    clear HB1 HO1 HX1
    have hbs := HB.out.size
    have hbx := HX.out.lt
    by_cases hlt : k < l.length
    · obtain ⟨b, o, x, y, hA, hb, hx, hc1, hc2⟩ := (HR.out.keep HB.out).at_ hlt
      subst hA
      have he := goodK_at HG.out hlt
      have HXY := Lib.hid (show l.getD k (0, 0) = (x, y) by rw [List.getD_eq_getElem?_getD, hx]; rfl)
      rw [HXY.out] at he
      obtain ⟨i, j, rfl, rfl, hij, hjn⟩ := edge_nat he
      clear hx he
      go_upto_region 5 with fail
      go_quiet (fail)
      go_upto_region 6 with fail
      obtain ⟨W1, hw1⟩ : ∃ W1, (wr.alloc (Obj.cells #[Value.int IntKind.i64 (i : Int), Value.int IntKind.i64 (j : Int)] 41)).drewN nq = W1 := ⟨_, rfl⟩
      have hx1 : Box W1 (w.heap.size + 1) 136 (gCells n (swK l k)) := by rw [← hw1]; exact (HX.out.alloc _).drewN _
      have HB1 := Lib.hid (show Below w.heap.size w W1 by rw [← hw1]; exact below_drewN (HB.out.alloc HB.out.size _) _)
      have HO1 := Lib.hid (show ∃ cs, cs.size = 17 ∧ Box W1 w.heap.size 136 cs by
        obtain ⟨cs, h1, h2⟩ := HO.out
        rw [← hw1]; exact ⟨cs, h1, (h2.alloc _).drewN _⟩)
      rw [hw1]
      clear hw1 HX HB HO
      have hsl := swK_len l k
      have HLT := Lib.hid (swK_lt hn HG.out k hk)
      have hi16 : (i : Int) < 16 := by omega
      have hj16 : (j : Int) < 16 := by omega
      have hin : i < 16 := by omega
      have hjn' : j < 16 := by omega
      obtain ⟨a, HA⟩ : ∃ a, Hid (a = (swK l k).getD i 0) := ⟨_, Lib.hid rfl⟩
      have HAL := Lib.hid (show a < 65536 by rw [HA.out]; exact getD_lt HLT.out (by decide) i)
      have hci := gBox_at hx1 (i := i) (by omega)
      rw [← HA.out] at hci
      have hfi := hx1.free (1 + i)
      have HX1 := Lib.hid hx1
      have HSL := Lib.hid hsl
      clear hx1 hsl
      go_region
      clear hci hfi
      go_upto_region 7 with fail
      obtain ⟨W2, hw2⟩ : ∃ W2, (W1.setCell ⟨w.heap.size + 1, 1 + i, none⟩ (Value.int IntKind.i64 (bits BinOp.or IntKind.i64 (a : Int) (wrap64 (2 ^ j))))).drew = W2 := ⟨_, rfl⟩
      have hx2 : Box W2 (w.heap.size + 1) 136 (gCells n ((swK l k).set i (a ||| 2 ^ j))) := by rw [← hw2]; exact (gBox_put HX1.out i _ _ (or_bit HAL.out hjn')).drewN 1
      have HB2 := Lib.hid (show Below w.heap.size w W2 by rw [← hw2]; exact below_drewN (HB1.out.setCell (p := ⟨w.heap.size + 1, 1 + i, none⟩) (Nat.le_succ _) _) 1)
      have HO2 := Lib.hid (show ∃ cs, cs.size = 17 ∧ Box W2 w.heap.size 136 cs by
        obtain ⟨cs, h1, h2⟩ := HO1.out
        rw [← hw2]; exact ⟨cs, h1, (h2.far (p := ⟨w.heap.size + 1, 1 + i, none⟩) (by show w.heap.size ≠ w.heap.size + 1; omega) _).drewN 1⟩)
      rw [hw2]
      clear hw2 HX1 HB1 HO1
      obtain ⟨d, HD⟩ : ∃ d, Hid (d = ((swK l k).set i (a ||| 2 ^ j)).getD j 0) := ⟨_, Lib.hid rfl⟩
      have HDL := Lib.hid (show d < 65536 by rw [HD.out]; exact getD_lt (set_lt HLT.out (or_lt HAL.out (pow_lt16 hjn'))) (by decide) j)
      have hcj := gBox_at hx2 (i := j) (by rw [List.length_set, HSL.out]; exact hjn')
      rw [← HD.out] at hcj
      have hfj := hx2.free (1 + j)
      have HX2 := Lib.hid hx2
      clear hx2
      go_region
      clear hcj hfj
      go_wp2_with fail
      go_roundw
      case rel =>
        refine ⟨k + 1, by go_num, by omega, Lib.hid ?_, Lib.hid ?_, Lib.hid ?_⟩
        · exact below_drewN (HB2.out.setCell (p := ⟨w.heap.size + 1, 1 + j, none⟩) (Nat.le_succ _) _) 1
        · obtain ⟨cs, h1, h2⟩ := HO2.out
          exact ⟨cs, h1, (h2.far (p := ⟨w.heap.size + 1, 1 + j, none⟩) (by show w.heap.size ≠ w.heap.size + 1; omega) _).drewN 1⟩
        · have h3 := (gBox_put HX2.out j _ _ (or_bit HDL.out hin)).drewN 1
          have h4 : swK l (k + 1) = ((swK l k).set i (a ||| 2 ^ j)).set j (d ||| 2 ^ i) := by
            rw [swK, HXY.out, HD.out, HA.out]; rfl
          rw [h4]
          exact h3
      case measure => simp [intOf]; omega
    · obtain rfl : k = l.length := by omega
      cases own
      · obtain ⟨cs, hcs, hbo⟩ := HO.out
        have HBO := Lib.hid hbo
        have HCS := Lib.hid hcs
        clear hbo hcs
        go_wp2_with (first
          | (refine wpList_load_row rfl 136 _ rfl (w.heap.size + 1) rfl 136 (gCells n (swK l l.length)) (0, 0) _ HX.out Try.underlying136 rfl (by rw [gCells_size, swK_len]; kernel_rfl) ?_)
          | (refine wpList_store_rowTo rfl 136 _ _ rfl rfl w.heap.size (gCells n (swK l l.length)) rfl rfl 136 cs HBO.out (by rw [gCells_size, swK_len]; kernel_rfl) (by rw [gCells_size, swK_len, HCS.out]) (gCells_one _ _) ?_))
        refine bodyPost_ret (v := .agg (gCells n (graphL n l false))) (results_cell_row rfl _ _ w.heap.size 136 _ (0, 0) _ rfl (setRow_heap _ _ _ _ _ _ HBO.out) Try.underlying136 rfl (by rw [gCells_size, show (graphL n l false).length = 16 from swK_len l _]; kernel_rfl)) rfl ⟨rfl, ?_⟩
        exact below_setRowG HB.out (Nat.le_refl _) _
      · have HLT := Lib.hid (swK_lt hn HG.out l.length (Nat.le_refl _))
        have HSL := Lib.hid (swK_len l l.length)
        obtain ⟨wo, rfl⟩ : ∃ wo : World, wo = wr := ⟨_, rfl⟩
        go_wp2_with fail
        go_loopw [12, 46, 47, 48, 49, 50, 51, 52, 53, 54, 55, 56, 57, 58] (fun _ i _ _ _ _ _ _ _ _ _ _ _ _ wr => ∃ m : Nat, i = .int .i64 m ∧ m ≤ n ∧ Hid (Below w.heap.size w wr) ∧ Hid (∃ cs, cs.size = 17 ∧ Box wr w.heap.size 136 cs) ∧ Hid (Box wr (w.heap.size + 1) 136 (gCells n (ownK (swK l l.length) m)))) (fun _ i _ _ _ _ _ _ _ _ _ _ _ _ _ => n - (intOf i).toNat)
        case atStart => exact ⟨0, rfl, by omega, HB, HO, HX⟩
        case round =>
          obtain ⟨m, rfl, hm, HB6, HO6, HX6⟩ := hrel
          have HB5 := HB6
          have HO5 := HO6
          have HX5 := HX6
          clear HB6 HO6 HX6 HB HO HX
          have hbs5 := HB5.out.size
          by_cases hmn : m < n
          · obtain ⟨a, HA⟩ : ∃ a, Hid (a = (ownK (swK l l.length) m).getD m 0) := ⟨_, Lib.hid rfl⟩
            have HAL := Lib.hid (show a < 65536 by rw [HA.out]; exact getD_lt (ownK_lt HLT.out m (by omega)) (by decide) m)
            have hm16 : (m : Int) < 16 := by omega
            have hmn' : m < 16 := by omega
            have hci := gBox_at HX5.out (i := m) (by rw [ownK_len, HSL.out]; exact hmn')
            rw [← HA.out] at hci
            have hfi := HX5.out.free (1 + m)
            go_upto_region 13 with fail
            go_region
            clear hci hfi
            go_wp2_with fail
            go_roundw
            case rel =>
              refine ⟨m + 1, by go_num, by omega, Lib.hid ?_, Lib.hid ?_, Lib.hid ?_⟩
              · exact below_drewN (HB5.out.setCell (p := ⟨w.heap.size + 1, 1 + m, none⟩) (Nat.le_succ _) _) 1
              · obtain ⟨cs, h1, h2⟩ := HO5.out
                exact ⟨cs, h1, (h2.far (p := ⟨w.heap.size + 1, 1 + m, none⟩) (by show w.heap.size ≠ w.heap.size + 1; omega) _).drewN 1⟩
              · have h3 := (gBox_put HX5.out m _ _ (or_bit HAL.out hmn')).drewN 1
                have h4 : ownK (swK l l.length) (m + 1) = (ownK (swK l l.length) m).set m (a ||| 2 ^ m) := by rw [ownK, HA.out]
                rw [h4]
                exact h3
            case measure => simp [intOf]; omega
          · obtain rfl : m = n := by omega
            obtain ⟨cs, hcs, hbo⟩ := HO5.out
            have HBO := Lib.hid hbo
            have HCS := Lib.hid hcs
            clear hbo hcs
            go_wp2_with (first
              | (refine wpList_load_row rfl 136 _ rfl (w.heap.size + 1) rfl 136 (gCells m (ownK (swK l l.length) m)) (0, 0) _ HX5.out Try.underlying136 rfl (by rw [gCells_size, ownK_len, swK_len]; kernel_rfl) ?_)
              | (refine wpList_store_rowTo rfl 136 _ _ rfl rfl w.heap.size (gCells m (ownK (swK l l.length) m)) rfl rfl 136 cs HBO.out (by rw [gCells_size, ownK_len, swK_len]; kernel_rfl) (by rw [gCells_size, ownK_len, swK_len, HCS.out]) (gCells_one _ _) ?_))
            refine bodyPost_ret (v := .agg (gCells m (graphL m l true))) (results_cell_row rfl _ _ w.heap.size 136 _ (0, 0) _ rfl (setRow_heap _ _ _ _ _ _ HBO.out) Try.underlying136 rfl (by rw [gCells_size, show (graphL m l true).length = 16 from (ownK_len _ _).trans (swK_len l _)]; kernel_rfl)) rfl ⟨rfl, ?_⟩
            exact below_setRowG HB5.out (Nat.le_refl _) _
end Go.Proofs.Ythbhengcinkepaa.Lig
