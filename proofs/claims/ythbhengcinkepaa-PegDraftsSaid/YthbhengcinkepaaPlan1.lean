/- Arrays of sixteen integers: as values, as a block, and their comparison with the zero array. · What is still to be taken from each hole, as the program counts it: mathematics. · How many pegs a game takes from a hole: the program's change. · IsPlan of package peg. -/
import Derived.Test.YthbhengcinkepaaTri
import Derived.Laws.Rows
import Derived.Test.YthbhengcinkepaaPlanL
import Derived.Test.YthbhengcinkepaaEdgP
import Derived.Test.YthbhengcinkepaaWei
namespace Go.Proofs.Ythbhengcinkepaa
open Go.RowKit

/-- The cells of an array of sixteen integers. -/
def arrZ (f : Nat → Int) : Array Value := (Array.range 16).map fun i => .int .i64 (f i)
theorem arrZ_size (f : Nat → Int) : (arrZ f).size = 16 := by simp [arrZ]
theorem arrZ_get (f : Nat → Int) {i : Nat} (h : i < 16) : (arrZ f)[i]? = some (.int .i64 (f i)) := by
  unfold arrZ
  simp [h]
theorem arrZ_put (f : Nat → Int) (i : Nat) (x : Int) : (arrZ f).setIfInBounds i (.int .i64 x) = arrZ (fun j => if j = i then x else f j) := by
  apply Array.ext (by simp [arrZ])
  intro j h1 h2
  have h3 : j < 16 := by simpa [arrZ] using h2
  rw [Array.getElem_setIfInBounds (by simpa [arrZ] using h3)]
  simp only [arrZ, Array.getElem_map, Array.getElem_range]
  by_cases e : i = j
  · subst e; simp
  · simp [e, Ne.symm e]
theorem arrZ_alike {f g : Nat → Int} (h : ∀ i, i < 16 → f i = g i) : arrZ f = arrZ g := by
  apply Array.ext (by simp [arrZ])
  intro j h1 h2
  simp only [arrZ, Array.size_map, Array.size_range] at h1
  simp only [arrZ, Array.getElem_map, Array.getElem_range, h j h1]
theorem arrZ_out (f : Nat → Int) : arrZ f = #[.int .i64 (f 0), .int .i64 (f 1), .int .i64 (f 2), .int .i64 (f 3), .int .i64 (f 4), .int .i64 (f 5), .int .i64 (f 6), .int .i64 (f 7), .int .i64 (f 8), .int .i64 (f 9), .int .i64 (f 10), .int .i64 (f 11), .int .i64 (f 12), .int .i64 (f 13), .int .i64 (f 14), .int .i64 (f 15)] := by
  unfold arrZ
  rw [show Array.range 16 = #[0, 1, 2, 3, 4, 5, 6, 7, 8, 9, 10, 11, 12, 13, 14, 15] from by decide +kernel]
  simp
theorem arrZ_zero : arrZ (fun _ => 0) = #[.int .i64 0, .int .i64 0, .int .i64 0, .int .i64 0, .int .i64 0, .int .i64 0, .int .i64 0, .int .i64 0, .int .i64 0, .int .i64 0, .int .i64 0, .int .i64 0, .int .i64 0, .int .i64 0, .int .i64 0, .int .i64 0] := arrZ_out _

set_option maxHeartbeats 4000000 in
set_option maxRecDepth 100000 in
theorem eq16 (x0 x1 x2 x3 x4 x5 x6 x7 x8 x9 x10 x11 x12 x13 x14 x15 : Int) (w : World) : (Op.equalIn 10000 128 (.agg #[.int .i64 x0, .int .i64 x1, .int .i64 x2, .int .i64 x3, .int .i64 x4, .int .i64 x5, .int .i64 x6, .int .i64 x7, .int .i64 x8, .int .i64 x9, .int .i64 x10, .int .i64 x11, .int .i64 x12, .int .i64 x13, .int .i64 x14, .int .i64 x15]) (.agg #[.int .i64 0, .int .i64 0, .int .i64 0, .int .i64 0, .int .i64 0, .int .i64 0, .int .i64 0, .int .i64 0, .int .i64 0, .int .i64 0, .int .i64 0, .int .i64 0, .int .i64 0, .int .i64 0, .int .i64 0, .int .i64 0])).run Try.prog w = .ok (x0 == 0 && x1 == 0 && x2 == 0 && x3 == 0 && x4 == 0 && x5 == 0 && x6 == 0 && x7 == 0 && x8 == 0 && x9 == 0 && x10 == 0 && x11 == 0 && x12 == 0 && x13 == 0 && x14 == 0 && x15 == 0) w := by
  have u3 := Try.underlying3
  have ag := Try.isAgg3
  have z3 := Try.sizeOf3
  rw [show (10000 : Nat) = 9999 + 1 from rfl, Op.equalIn]
  simp only [Sem.run_bind, run_underlying Try.underlying128, Result.andThen_ok]
  simp only [Std.Legacy.Range.forIn_eq_forIn_range', Std.Legacy.Range.size, Nat.sub_zero, Nat.add_sub_cancel, Nat.div_one, List.range'_succ, List.range'_zero, List.forIn_cons, List.forIn_nil]
  go_simp
  refine if h0 : x0 = 0 then ?_ else (by simp [h0])
  refine if h1 : x1 = 0 then ?_ else (by simp [h0, h1])
  refine if h2 : x2 = 0 then ?_ else (by simp [h0, h1, h2])
  refine if h3 : x3 = 0 then ?_ else (by simp [h0, h1, h2, h3])
  refine if h4 : x4 = 0 then ?_ else (by simp [h0, h1, h2, h3, h4])
  refine if h5 : x5 = 0 then ?_ else (by simp [h0, h1, h2, h3, h4, h5])
  refine if h6 : x6 = 0 then ?_ else (by simp [h0, h1, h2, h3, h4, h5, h6])
  refine if h7 : x7 = 0 then ?_ else (by simp [h0, h1, h2, h3, h4, h5, h6, h7])
  refine if h8 : x8 = 0 then ?_ else (by simp [h0, h1, h2, h3, h4, h5, h6, h7, h8])
  refine if h9 : x9 = 0 then ?_ else (by simp [h0, h1, h2, h3, h4, h5, h6, h7, h8, h9])
  refine if h10 : x10 = 0 then ?_ else (by simp [h0, h1, h2, h3, h4, h5, h6, h7, h8, h9, h10])
  refine if h11 : x11 = 0 then ?_ else (by simp [h0, h1, h2, h3, h4, h5, h6, h7, h8, h9, h10, h11])
  refine if h12 : x12 = 0 then ?_ else (by simp [h0, h1, h2, h3, h4, h5, h6, h7, h8, h9, h10, h11, h12])
  refine if h13 : x13 = 0 then ?_ else (by simp [h0, h1, h2, h3, h4, h5, h6, h7, h8, h9, h10, h11, h12, h13])
  refine if h14 : x14 = 0 then ?_ else (by simp [h0, h1, h2, h3, h4, h5, h6, h7, h8, h9, h10, h11, h12, h13, h14])
  refine if h15 : x15 = 0 then ?_ else (by simp [h0, h1, h2, h3, h4, h5, h6, h7, h8, h9, h10, h11, h12, h13, h14, h15])
  simp [h0, h1, h2, h3, h4, h5, h6, h7, h8, h9, h10, h11, h12, h13, h14, h15]
/-- Whether the array is the zero one. -/
def zeroB (f : Nat → Int) : Bool := (List.range 16).all fun i => f i == 0
theorem eqZ (f : Nat → Int) (w : World) : (Op.equalIn 10000 128 (.agg (arrZ f)) (.agg (arrZ fun _ => 0))).run Try.prog w = .ok (zeroB f) w := by
  rw [arrZ_zero, arrZ_out, eq16, show zeroB f = (f 0 == 0 && f 1 == 0 && f 2 == 0 && f 3 == 0 && f 4 == 0 && f 5 == 0 && f 6 == 0 && f 7 == 0 && f 8 == 0 && f 9 == 0 && f 10 == 0 && f 11 == 0 && f 12 == 0 && f 13 == 0 && f 14 == 0 && f 15 == 0) from by
    unfold zeroB
    rw [show List.range 16 = [0, 1, 2, 3, 4, 5, 6, 7, 8, 9, 10, 11, 12, 13, 14, 15] from by decide +kernel]
    simp [Bool.and_assoc]]
theorem load16 (f : Nat → Int) (g : Nat) (w : World) (t : TypeId) (h : w.heap[g]? = some (.cells (arrZ f) t (0, 0))) : (loadVar 128 ⟨g, 0, none⟩).run Try.prog w = .ok (.agg (arrZ f)) w :=
  run_loadVar_row w g t _ _ _ _ h Try.underlying128 rfl (by rw [arrZ_size]; kernel_rfl)
end Go.Proofs.Ythbhengcinkepaa

namespace Go.Proofs.Ythbhengcinkepaa
open Lamp

/-- What the first k holes ask for. -/
def askK (p q : Nat) (m : Int) (k : Nat) (i : Nat) : Int := if i < k then m * (dirN p i - dirN q i) else 0
theorem askK_zero (p q : Nat) (m : Int) : arrZ (askK p q m 0) = arrZ (fun _ => 0) := arrZ_alike fun i _ => by unfold askK; rw [if_neg (Nat.not_lt_zero i)]
theorem askK_put (p q : Nat) (m : Int) (k : Nat) : arrZ (fun j => if j = k then m * (dirN p k - dirN q k) else askK p q m k j) = arrZ (askK p q m (k + 1)) := arrZ_alike fun i _ => by
  unfold askK
  by_cases h : i = k
  · subst h; rw [if_pos rfl, if_pos (Nat.lt_succ_self _)]
  · rw [if_neg h]
    by_cases h2 : i < k
    · rw [if_pos h2, if_pos (by omega)]
    · rw [if_neg h2, if_neg (by omega)]
theorem mul_dir {m : Int} (hm : 1 ≤ m ∧ m ≤ 1000000) {p q i : Nat} : -1000000 ≤ m * (dirN p i - dirN q i) ∧ m * (dirN p i - dirN q i) ≤ 1000000 := by
  rcases dirN_01 p i with h1 | h1 <;> rcases dirN_01 q i with h2 | h2 <;> rw [h1, h2] <;> omega
theorem askK_in {m : Int} (hm : 1 ≤ m ∧ m ≤ 1000000) {p q k i : Nat} : -1000000 ≤ askK p q m k i ∧ askK p q m k i ≤ 1000000 := by
  unfold askK
  split
  · exact mul_dir hm
  · omega
/-- What is left after the jumps of the first k lines. -/
def leftK (n : Nat) (l : List Tri) (js : List (Int × Int)) (p q : Nat) (m : Int) (k i : Nat) : Int := askK p q m n i - lostK l js i k
theorem leftK_zero (n : Nat) (l : List Tri) (js : List (Int × Int)) (p q : Nat) (m : Int) : leftK n l js p q m 0 = askK p q m n := by
  funext i; simp [leftK, lostK]
theorem leftK_next {n : Nat} {l : List Tri} {js : List (Int × Int)} {p q : Nat} {m : Int} {k : Nat} {e : Tri} {x y : Int} (hl : l[k]? = some e) (hj : js[k]? = some (x, y)) : (fun i => leftK n l js p q m k i - lostE e x 0 i - lostE e 0 y i) = leftK n l js p q m (k + 1) := by
  funext i
  have h1 := lostE_more e x 0 0 y i
  rw [Int.add_zero, Int.zero_add] at h1
  simp only [leftK, lostK, List.getD_eq_getElem?_getD, hl, hj, Option.getD_some, h1]
  omega
theorem leftK_in {n : Nat} {l : List Tri} {js : List (Int × Int)} {p q : Nat} {m : Int} {k i : Nat} (hm : 1 ≤ m ∧ m ≤ 1000000) (hk : k ≤ 40) (ho : (js.take k).all okT = true) : -200000000 ≤ leftK n l js p q m k i ∧ leftK n l js p q m k i ≤ 200000000 := by
  have h1 := askK_in hm (p := p) (q := q) (k := n) (i := i)
  have h2 := lostK_in (l := l) (js := js) i k ho
  unfold leftK
  omega
/-- Three cells are changed by one jump. -/
theorem put3 (f : Nat → Int) {a b c : Nat} (hab : a ≠ b) (hac : a ≠ c) (hbc : b ≠ c) (x : Int) : arrZ (fun j => if j = c then f c + x else (if j = b then f b - x else (if j = a then f a - x else f j))) = arrZ (fun i => f i - lostE ((a : Int), (b : Int), (c : Int)) x 0 i) := arrZ_alike fun i _ => by
  unfold lostE
  simp only [Int.ofNat_inj]
  by_cases h1 : i = a
  · subst h1; simp [hab, hac, Ne.symm hab, Ne.symm hac]
  · by_cases h2 : i = b
    · subst h2; simp [hbc, Ne.symm hbc, hab]
    · by_cases h3 : i = c
      · subst h3; simp [hac, hbc]
      · simp [h1, h2, h3, Ne.symm h1, Ne.symm h2, Ne.symm h3]
theorem put3_turn (f : Nat → Int) {a b c : Nat} (hab : a ≠ b) (hac : a ≠ c) (hbc : b ≠ c) (x : Int) : arrZ (fun j => if j = a then f a + x else (if j = b then f b - x else (if j = c then f c - x else f j))) = arrZ (fun i => f i - lostE ((a : Int), (b : Int), (c : Int)) 0 x i) := by
  rw [put3 f (Ne.symm hbc) (Ne.symm hac) (Ne.symm hab)]
  exact arrZ_alike fun i _ => by rw [lostE_turn]
/-- A hole that is not on the board is never changed. -/
theorem lostK_out {n : Nat} {l : List Tri} {js : List (Int × Int)} (hok : ∀ e ∈ l, TriOk n e) {i : Nat} (hi : n ≤ i) : ∀ k, k ≤ l.length → lostK l js i k = 0
  | 0, _ => rfl
  | k + 1, hk => by
    have hm := hok (l.getD k (0, 0, 0)) (by
      rw [List.getD_eq_getElem?_getD, List.getElem?_eq_getElem (by omega)]
      exact List.getElem_mem _)
    obtain ⟨h1, h2, h3, h4, h5, h6, _⟩ := hm
    rw [lostK, lostK_out hok hi k (by omega)]
    unfold lostE
    rw [if_neg (by omega), if_neg (by omega), if_neg (by omega)]
    rfl
theorem zeroB_plan {n : Nat} {l : List Tri} {js : List (Int × Int)} {p q : Nat} {m : Int} (hn : n ≤ 16) (hok : ∀ e ∈ l, TriOk n e) : zeroB (leftK n l js p q m l.length) = (List.range n).all (holeB l js p q m) := by
  rw [Bool.eq_iff_iff]
  unfold zeroB
  simp only [List.all_eq_true, List.mem_range, beq_iff_eq, holeB, decide_eq_true_eq]
  constructor
  · intro h i hi
    have h1 := h i (by omega)
    unfold leftK askK at h1
    rw [if_pos hi, Int.mul_sub] at h1
    omega
  · intro h i hi
    unfold leftK askK
    by_cases h1 : i < n
    · have h2 := h i h1
      rw [if_pos h1, Int.mul_sub]
      omega
    · rw [if_neg h1, lostK_out hok (by omega) _ (Nat.le_refl _)]
      rfl
end Go.Proofs.Ythbhengcinkepaa

namespace Go.Proofs.Ythbhengcinkepaa
open Go.RowKit Lamp

set_option maxRecDepth 100000 in
set_option maxHeartbeats 1000000 in
theorem change_any (p q h : Nat) (w : World) (hp : p < 65536) (hq : q < 65536) (hh : h < 16) :
    Calls Try.prog 81 #[.int .i64 p, .int .i64 q, .int .i64 h] w fun e w' => e = .returned (.int .i64 (dirN p h - dirN q h)) ∧ w = w' := by
  have HD := Lib.hid (show dirN p h - dirN q h = (if p.testBit h = true then 1 else 0) - (if q.testBit h = true then 1 else 0) from rfl)
  cases hb1 : p.testBit h <;> cases hb2 : q.testBit h <;>
  · have HPG := Lib.hid (fun w9 => hasPeg_of w9 hp hh hb1)
    have HQG := Lib.hid (fun w9 => hasPeg_of w9 hq hh hb2)
    rw [hb1, hb2] at HD
    clear hb1 hb2
    go_enter Try.func81, Try.ntmps81
    go_wp2_with (go_at_call 118; first | (with_reducible refine (HPG.out _).mono ?_; rintro e w' ⟨rfl, rfl⟩) | (with_reducible refine (HQG.out _).mono ?_; rintro e w' ⟨rfl, rfl⟩))
    go_ret
    exact ⟨by rw [HD.out]; rfl, rfl⟩
end Go.Proofs.Ythbhengcinkepaa

namespace Go.Proofs.Ythbhengcinkepaa
open Go.RowKit Lamp

set_option maxRecDepth 100000 in
set_option maxHeartbeats 4000000 in
theorem IsPlan_ok (A A2 : Option Addr) (n p q c c2 k2 : Nat) (m : Int) (l : List Tri) (js : List (Int × Int)) (w : World) (hr : RTri w w.heap.size A l) (hj : REdges w w.heap.size A2 js) (hc : checkT n l = 0) (hp : p < 2 ^ n) (hq : q < 2 ^ n) (hk2 : k2 = js.length) (hjl : js.length ≤ 1000000) :
    Calls Try.prog 43 #[.int .i64 n, .slice A l.length c, .int .i64 p, .int .i64 q, .int .i64 m, .slice A2 k2 c2] w fun e w' => e = .returned (.bool (planB n l p q m js)) ∧ Below w.heap.size w w' := by
  obtain ⟨hn1, hn16, hl, hg⟩ := checkT_zero hc
  have hn : n ≤ 16 := by omega
  have h16 := Nat.pow_le_pow_right (n := 2) (by decide) hn
  have HC := Lib.hid (check_2 A n l p q c w hr (by omega))
  have HZ := Lib.hid (show checkPs n l [(p : Int), (q : Int)] = 0 from checkPs_ok (xs := [p, q]) hc (by simp; exact ⟨hp, hq⟩))
  have HOK := Lib.hid (goodT_ok hg)
  have HR := Lib.hid hr
  have HJ := Lib.hid hj
  have HP := Lib.hid (show p < 65536 from Nat.lt_of_lt_of_le hp h16)
  have HQ := Lib.hid (show q < 65536 from Nat.lt_of_lt_of_le hq h16)
  have HPB := Lib.hid (show planB n l p q m js = ((decide (1 ≤ m) && (decide (m ≤ 1000000) && decide (js.length = l.length))) && (js.all okT && (List.range n).all (holeB l js p q m))) from rfl)
  obtain ⟨R, hR⟩ : ∃ R, planB n l p q m js = R := ⟨_, rfl⟩
  rw [hR] at HPB ⊢
  subst hk2
  clear hr hj hc hg hp hq h16 hR
  go_enter Try.func43, Try.ntmps43
  by_cases hm1 : m < 1
  · go_wp2_with fail
    refine HC.out.mono ?_
    rintro e w1 ⟨rfl, hb⟩
    rw [HZ.out]
    go_wp2_with fail
    go_ret
    exact ⟨ret_bool (by rw [HPB.out, decide_eq_false (show ¬ 1 ≤ m by omega)]; simp), hb⟩
  by_cases hm2 : m > 1000000
  · go_wp2_with fail
    refine HC.out.mono ?_
    rintro e w1 ⟨rfl, hb⟩
    rw [HZ.out]
    go_wp2_with fail
    go_ret
    exact ⟨ret_bool (by rw [HPB.out, decide_eq_false (show ¬ m ≤ 1000000 by omega)]; simp), hb⟩
  by_cases hlen : js.length = l.length
  case neg =>
    have hle : ¬ (js.length : Int) = (l.length : Int) := by omega
    have hd1 : decide (m < 1) = false := decide_eq_false hm1
    have hd2 : decide (1000000 < m) = false := decide_eq_false hm2
    go_wp2_with fail
    refine HC.out.mono ?_
    rintro e w1 ⟨rfl, hb⟩
    rw [HZ.out]
    go_wp2_with fail
    go_ret
    exact ⟨ret_bool (by rw [HPB.out, decide_eq_false hlen]; simp), hb⟩
  have HM := Lib.hid (show 1 ≤ m ∧ m ≤ 1000000 by omega)
  rw [decide_eq_true HM.out.1, decide_eq_true HM.out.2, decide_eq_true hlen] at HPB
  have HLN := Lib.hid hlen
  have hle : (js.length : Int) = (l.length : Int) := by omega
  have hd1 : decide (m < 1) = false := decide_eq_false hm1
  have hd2 : decide (1000000 < m) = false := decide_eq_false hm2
  go_wp2_with fail
  refine HC.out.mono ?_
  rintro e w1 ⟨rfl, hb⟩
  rw [HZ.out]
  have HB1 := Lib.hid hb
  have hs1 := hb.size
  clear hb HC
  go_wp2_with fail
  obtain ⟨g0, hg0⟩ : ∃ g0, w1.heap.size = g0 := ⟨_, rfl⟩
  have HBX0 := Lib.hid (Box.new w1 128 (arrZ (askK p q m 0)))
  rw [hg0] at HBX0 ⊢
  have HA0 := Lib.hid ((askK_zero p q m).trans arrZ_zero)
  have HG0 := Lib.hid (show w.heap.size ≤ g0 by omega)
  have HB2 := Lib.hid (show ∀ o, Below w.heap.size w (w1.alloc o) from fun o => HB1.out.alloc HB1.out.size o)
  have HG1 := Lib.hid hg0
  clear hg0 hlen
  go_loopw [43] (fun s wr => ∃ k : Nat, s = .int .i64 k ∧ k ≤ n ∧ Hid (Box wr g0 128 (arrZ (askK p q m k))) ∧ Hid (Below w.heap.size w wr)) (fun s _ => n - (intOf s).toNat)
  case atStart =>
    refine ⟨0, rfl, by omega, Lib.hid ?_, Lib.hid (HB2.out _)⟩
    have h := HBX0.out
    rw [HA0.out] at h ⊢
    exact h
  case round =>
    obtain ⟨k, rfl, hk, HX1, HB3⟩ := hrel
    have HX := HX1
    have HB := HB3
    clear HX1 HB3 HBX0 HA0
    by_cases hlt : k < n
    · have hk16 : k < 16 := by omega
      have HCH := Lib.hid (fun w9 => change_any p q k w9 HP.out HQ.out hk16)
      have hmd := mul_dir HM.out (p := p) (q := q) (i := k)
      obtain ⟨d, hd⟩ : ∃ d, dirN p k - dirN q k = d := ⟨_, rfl⟩
      have HNX := Lib.hid (askK_put p q m k)
      rw [hd] at HCH hmd HNX
      have hwm : wrap64 (m * d) = m * d := w64 (by omega)
      have hwm2 : IntKind.i64.wrap (m * d) = m * d := IntWalk.i64_in _ (by omega)
      have hcl := HX.out.cell k
      rw [arrZ_get _ hk16] at hcl
      have hfr := HX.out.free k
      clear hd hmd
      go_wp2_with (go_at_call 81; refine (HCH.out _).mono ?_; rintro e w' ⟨rfl, rfl⟩)
      go_roundw
      case rel =>
        refine ⟨k + 1, by go_num, by omega, Lib.hid ?_, Lib.hid (HB.out.setCell (p := ⟨g0, k, none⟩) HG0.out _)⟩
        have h := HX.out.put k (.int .i64 (m * d))
        rw [arrZ_put, HNX.out] at h
        exact h
      case measure => simp [intOf]; omega
    · obtain rfl : k = n := by omega
      clear hle
      have HX0 := Lib.hid (show Box wr g0 128 (arrZ (leftK k l js p q m 0)) by rw [leftK_zero]; exact HX.out)
      clear HX hlt hk
      go_wp2_with fail
      go_loopw [57] (fun s ws => ∃ i : Nat, s = .int .i64 i ∧ i ≤ l.length ∧ Hid ((js.take i).all okT = true) ∧ Hid (Box ws g0 128 (arrZ (leftK k l js p q m i))) ∧ Hid (Below w.heap.size w ws)) (fun s _ => l.length - (intOf s).toNat)
      case atStart => exact ⟨0, rfl, by omega, Lib.hid rfl, HX0, HB⟩
      case round =>
        clear HX0 HB
        obtain ⟨i, rfl, hi, HO1, HX1, HB3⟩ := hrel
        have HO := HO1
        have HX := HX1
        have HB := HB3
        clear HO1 HX1 HB3
        by_cases hlt : i < l.length
        · have hij : i < js.length := by rw [HLN.out]; exact hlt
          obtain ⟨b, o, e1, e2, e3, hA, hbb, hx, hc1, hc2, hc3⟩ := (HR.out.below HB.out).at_ hlt
          subst hA
          have htri := HOK.out _ (List.mem_of_getElem? hx)
          obtain ⟨a1, a2, a3, he, _, _, _⟩ := htri.nat hn
          cases he
          obtain ⟨h11, h12, h13, h14, h15, h16, h17, h18, h19⟩ := htri
          obtain ⟨b2, o2, x, y, hA2, hbb2, hxy, _, _⟩ := (HJ.out.below HB.out).at_ hij
          have HJT := Lib.hid (show (js.take (i + 1)).all okT = ((js.take i).all okT && okT (x, y)) from okT_next hxy)
          have HJN := Lib.hid (fun hb => okT_not (js := js) hxy (x := x) (y := y) hb)
          have HXY := Lib.hid hxy
          have HNX := Lib.hid (leftK_next (n := k) (p := p) (q := q) (m := m) hx hxy)
          have HIN := Lib.hid (fun t => leftK_in (n := k) (l := l) (js := js) (p := p) (q := q) (k := i) (i := t) HM.out (by omega) HO.out)
          have hab : a1 ≠ a2 := by simp only at h17; omega
          have hac : a1 ≠ a3 := by simp only at h18; omega
          have hbc : a2 ≠ a3 := by simp only at h19; omega
          have g1 : a1 < 16 := by simp only at h12; omega
          have g2 : a2 < 16 := by simp only at h14; omega
          have g3 : a3 < 16 := by simp only at h16; omega
          have HD3 := Lib.hid (And.intro hab (And.intro hac hbc))
          obtain ⟨CC, hCC0, hCC1, hCC2⟩ : ∃ CC : Nat → Nat → Int, CC 0 = leftK k l js p q m i ∧ CC 1 = (fun t => leftK k l js p q m i t - lostE ((a1 : Int), (a2 : Int), (a3 : Int)) x 0 t) ∧ CC 2 = leftK k l js p q m (i + 1) := ⟨fun | 0 => _ | 1 => _ | _ => _, rfl, rfl, rfl⟩
          have HC0 := Lib.hid hCC0
          have HC1 := Lib.hid hCC1
          have HC2 := Lib.hid hCC2
          subst hA2
          clear hx hxy hCC0 hCC1 hCC2 h11 h12 h13 h14 h15 h16 h17 h18 h19 hab hac hbc
          go_upto_region 12 with fail
          go_wp2_with fail
          refine (both_any a1 a2 a3 _).mono ?_
          rintro e w3' ⟨rfl, hb3⟩
          have HB3 := Lib.hid (show Below w.heap.size w w3' from (HB.out.alloc HB.out.size _).trans (hb3.mono (by have := HB.out.size; simp; omega)))
          have HX3 := Lib.hid (show Box w3' g0 128 (arrZ (CC 0)) by
            rw [HC0.out]
            exact (HX.out.alloc _).below hb3 (by have := HX.out.lt; simp; omega))
          clear hb3 hc1 hc2 hc3 HX HB
          go_wp2_with fail
          go_loopw [64] (fun s wx => ∃ j : Nat, s = .int .i64 j ∧ j ≤ 2 ∧ Hid (1 ≤ j → 0 ≤ x ∧ x ≤ 1000000) ∧ Hid (2 ≤ j → 0 ≤ y ∧ y ≤ 1000000) ∧ Hid (Box wx g0 128 (arrZ (CC j))) ∧ Hid (Below w.heap.size w wx)) (fun s _ => 2 - (intOf s).toNat)
          case atStart => exact ⟨0, rfl, by omega, Lib.hid (fun h => by omega), Lib.hid (fun h => by omega), HX3, HB3⟩
          case round =>
            clear HB3 HX3
            obtain ⟨j, rfl, hj, HK1, HK2, HX1, HB1⟩ := hrel
            have HX := HX1
            have HB := HB1
            clear HX1 HB1
            obtain ⟨b3, o3, x3, y3, hA3, hbb3, hxy3, hj0, hj1⟩ := (HJ.out.below HB.out).at_ hij
            cases hA3
            obtain ⟨ex, ey⟩ : x3 = x ∧ y3 = y := by
              have := hxy3.symm.trans HXY.out
              simpa using this
            rw [ex] at hj0
            rw [ey] at hj1
            clear ex ey hxy3
            have hbz := HB.out.size
            match j, hj with
            | 0, _ =>
              have hbj : ∀ t, -210000000 ≤ CC 0 t ∧ CC 0 t ≤ 210000000 := fun t => by
                rw [HC0.out]; have := HIN.out t; omega
              have HBJ := Lib.hid hbj
              clear hbj
              have hix := both_0 a1 a2 a3 a3 a2 a1
              go_upto_region 15 with fail
              clear hix
              have HQ0 := Lib.hid (Box.new wr 105 #[Value.int IntKind.i64 a1, Value.int IntKind.i64 a2, Value.int IntKind.i64 a3])
              have HX0 := Lib.hid (HX.out.alloc (Obj.cells #[Value.int IntKind.i64 a1, Value.int IntKind.i64 a2, Value.int IntKind.i64 a3] 105))
              have HB0 := Lib.hid (HB.out.alloc HB.out.size (Obj.cells #[Value.int IntKind.i64 a1, Value.int IntKind.i64 a2, Value.int IntKind.i64 a3] 105))
              have HGQ := Lib.hid (show wr.heap.size ≠ g0 by have := HX.out.lt; omega)
              have y0 : (wr.alloc (Obj.cells #[Value.int IntKind.i64 a1, Value.int IntKind.i64 a2, Value.int IntKind.i64 a3] 105)).cell? ⟨b2, o2 + i * 2, none⟩ = some (.int .i64 x) := by
                rw [World.cell?_alloc_lt wr _ ⟨b2, o2 + i * 2, none⟩ (by show b2 < _; omega)]; exact hj0
              obtain ⟨W0, hW0⟩ : ∃ W0, wr.alloc (Obj.cells #[Value.int IntKind.i64 a1, Value.int IntKind.i64 a2, Value.int IntKind.i64 a3] 105) = W0 := ⟨_, rfl⟩
              obtain ⟨q0, hq0⟩ : ∃ q0, wr.heap.size = q0 := ⟨_, rfl⟩
              rw [hW0] at HQ0 HX0 HB0 y0 ⊢
              rw [hq0] at HQ0 HGQ ⊢
              clear hW0 hq0 HX HB hj0 hj1
              go_upto_region 16 with fail
              clear y0
              by_cases hlo : x < 0
              · go_wp2_with fail
                go_ret
                exact ⟨ret_bool (by rw [HPB.out, HJN.out (by unfold okT; simp; omega)]; simp), HB0.out⟩
              by_cases hhi : 1000000 < x
              · go_wp2_with fail
                go_ret
                exact ⟨ret_bool (by rw [HPB.out, HJN.out (by unfold okT; simp; omega)]; simp), HB0.out⟩
              have HOX := Lib.hid (show 0 ≤ x ∧ x ≤ 1000000 by omega)
              have hlo' : decide (x < 0) = false := decide_eq_false hlo
              have hhi' : decide (1000000 < x) = false := decide_eq_false hhi
              go_upto_region 18 with fail
              clear hlo' hhi'
              have hcl : W0.cell? ⟨g0, a1, none⟩ = some (.int .i64 (CC 0 a1)) := by
                have h0 := HX0.out.cell a1
                rw [arrZ_get _ g1] at h0; exact h0
              have hfr := HX0.out.free a1
              have hbd := HBJ.out a1
              obtain ⟨z1, hz0⟩ : ∃ z, CC 0 a1 = z := ⟨_, rfl⟩
              rw [hz0] at hcl hbd
              have HZ0 := Lib.hid hz0
              have hw1 : wrap64 (z1 - x) = z1 - x := w64 (by have := HOX.out; omega)
              have hw2 : IntKind.i64.wrap (z1 - x) = z1 - x := IntWalk.i64_in _ (by have := HOX.out; omega)
              have x0 := HQ0.out.cell 0
              simp only [List.getElem?_toArray, List.getElem?_cons_zero] at x0
              clear hz0 hbd
              go_upto_region 19 with fail
              have HX1 := Lib.hid (HX0.out.put a1 (.int .i64 (z1 - x)))
              have HQ1 := Lib.hid (HQ0.out.far (p := ⟨g0, a1, none⟩) HGQ.out (.int .i64 (z1 - x)))
              have HB1 := Lib.hid (HB0.out.setCell (p := ⟨g0, a1, none⟩) HG0.out (.int .i64 (z1 - x)))
              rw [arrZ_put] at HX1
              obtain ⟨W1, hW1⟩ : ∃ W1, W0.setCell ⟨g0, a1, none⟩ (.int .i64 (z1 - x)) = W1 := ⟨_, rfl⟩
              rw [hW1] at HX1 HQ1 HB1 ⊢
              clear hW1 hcl hfr hw1 hw2 x0
              have hcl : W1.cell? ⟨g0, a2, none⟩ = some (.int .i64 (CC 0 a2)) := by
                have h0 := HX1.out.cell a2
                rw [arrZ_get _ g2, if_neg (show a2 ≠ a1 from Ne.symm HD3.out.1)] at h0; exact h0
              have hfr := HX1.out.free a2
              have hbd := HBJ.out a2
              obtain ⟨z2, hz1⟩ : ∃ z, CC 0 a2 = z := ⟨_, rfl⟩
              rw [hz1] at hcl hbd
              have HZ1 := Lib.hid hz1
              have hw1 : wrap64 (z2 - x) = z2 - x := w64 (by have := HOX.out; omega)
              have hw2 : IntKind.i64.wrap (z2 - x) = z2 - x := IntWalk.i64_in _ (by have := HOX.out; omega)
              have x1 := HQ1.out.cell 1
              simp only [List.getElem?_toArray, List.getElem?_cons_zero, List.getElem?_cons_succ] at x1
              clear hz1 hbd
              go_upto_region 20 with fail
              have HX2 := Lib.hid (HX1.out.put a2 (.int .i64 (z2 - x)))
              have HQ2 := Lib.hid (HQ1.out.far (p := ⟨g0, a2, none⟩) HGQ.out (.int .i64 (z2 - x)))
              have HB2 := Lib.hid (HB1.out.setCell (p := ⟨g0, a2, none⟩) HG0.out (.int .i64 (z2 - x)))
              rw [arrZ_put] at HX2
              obtain ⟨W2, hW2⟩ : ∃ W2, W1.setCell ⟨g0, a2, none⟩ (.int .i64 (z2 - x)) = W2 := ⟨_, rfl⟩
              rw [hW2] at HX2 HQ2 HB2 ⊢
              clear hW2 hcl hfr hw1 hw2 x1
              have hcl : W2.cell? ⟨g0, a3, none⟩ = some (.int .i64 (CC 0 a3)) := by
                have h0 := HX2.out.cell a3
                rw [arrZ_get _ g3, if_neg (show a3 ≠ a2 from Ne.symm HD3.out.2.2), if_neg (show a3 ≠ a1 from Ne.symm HD3.out.2.1)] at h0; exact h0
              have hfr := HX2.out.free a3
              have hbd := HBJ.out a3
              obtain ⟨z3, hz2⟩ : ∃ z, CC 0 a3 = z := ⟨_, rfl⟩
              rw [hz2] at hcl hbd
              have HZ2 := Lib.hid hz2
              have hw1 : wrap64 (z3 + x) = z3 + x := w64 (by have := HOX.out; omega)
              have hw2 : IntKind.i64.wrap (z3 + x) = z3 + x := IntWalk.i64_in _ (by have := HOX.out; omega)
              have x2 := HQ2.out.cell 2
              simp only [List.getElem?_toArray, List.getElem?_cons_zero, List.getElem?_cons_succ] at x2
              clear hz2 hbd
              go_wp2_with fail
              have HX3 := Lib.hid (HX2.out.put a3 (.int .i64 (z3 + x)))
              have HQ3 := Lib.hid (HQ2.out.far (p := ⟨g0, a3, none⟩) HGQ.out (.int .i64 (z3 + x)))
              have HB3 := Lib.hid (HB2.out.setCell (p := ⟨g0, a3, none⟩) HG0.out (.int .i64 (z3 + x)))
              rw [arrZ_put] at HX3
              obtain ⟨W3, hW3⟩ : ∃ W3, W2.setCell ⟨g0, a3, none⟩ (.int .i64 (z3 + x)) = W3 := ⟨_, rfl⟩
              rw [hW3] at HX3 HQ3 HB3 ⊢
              clear hW3 hcl hfr hw1 hw2 x2
              have HBF := HB3
              go_roundw
              case rel =>
                refine ⟨1, by first | rfl | go_num, by omega, Lib.hid (fun _ => HOX.out), Lib.hid (fun h => by omega), Lib.hid ?_, Lib.hid HBF.out⟩
                have h0 := HX3.out
                rw [← HZ0.out, ← HZ1.out, ← HZ2.out] at h0
                have h1 := put3 (CC 0) HD3.out.1 HD3.out.2.1 HD3.out.2.2 x
                have h2 : (fun t => CC 0 t - lostE ((a1 : Int), (a2 : Int), (a3 : Int)) x 0 t) = CC 1 := by rw [HC1.out, HC0.out]
                rw [h2] at h1
                rw [← h1]
                exact h0
              case measure => simp [intOf]
            | 1, _ =>
              have hbj : ∀ t, -210000000 ≤ CC 1 t ∧ CC 1 t ≤ 210000000 := fun t => by
                have h1 := HIN.out t
                have h2 := HK1.out (by omega)
                have h3 := lostE_in ((a1 : Int), (a2 : Int), (a3 : Int)) (x := x) (y := 0) t (by omega)
                rw [HC1.out]
                show -210000000 ≤ _ - _ ∧ _ - _ ≤ 210000000
                omega
              have HBJ := Lib.hid hbj
              clear hbj
              have hix := both_1 a1 a2 a3 a3 a2 a1
              go_upto_region 15 with fail
              clear hix
              have HQ0 := Lib.hid (Box.new wr 105 #[Value.int IntKind.i64 a3, Value.int IntKind.i64 a2, Value.int IntKind.i64 a1])
              have HX0 := Lib.hid (HX.out.alloc (Obj.cells #[Value.int IntKind.i64 a3, Value.int IntKind.i64 a2, Value.int IntKind.i64 a1] 105))
              have HB0 := Lib.hid (HB.out.alloc HB.out.size (Obj.cells #[Value.int IntKind.i64 a3, Value.int IntKind.i64 a2, Value.int IntKind.i64 a1] 105))
              have HGQ := Lib.hid (show wr.heap.size ≠ g0 by have := HX.out.lt; omega)
              have y0 : (wr.alloc (Obj.cells #[Value.int IntKind.i64 a3, Value.int IntKind.i64 a2, Value.int IntKind.i64 a1] 105)).cell? ⟨b2, o2 + i * 2 + 1, none⟩ = some (.int .i64 y) := by
                rw [World.cell?_alloc_lt wr _ ⟨b2, o2 + i * 2 + 1, none⟩ (by show b2 < _; omega)]; exact hj1
              obtain ⟨W0, hW0⟩ : ∃ W0, wr.alloc (Obj.cells #[Value.int IntKind.i64 a3, Value.int IntKind.i64 a2, Value.int IntKind.i64 a1] 105) = W0 := ⟨_, rfl⟩
              obtain ⟨q0, hq0⟩ : ∃ q0, wr.heap.size = q0 := ⟨_, rfl⟩
              rw [hW0] at HQ0 HX0 HB0 y0 ⊢
              rw [hq0] at HQ0 HGQ ⊢
              clear hW0 hq0 HX HB hj0 hj1
              go_upto_region 16 with fail
              clear y0
              by_cases hlo : y < 0
              · go_wp2_with fail
                go_ret
                exact ⟨ret_bool (by rw [HPB.out, HJN.out (by unfold okT; simp; omega)]; simp), HB0.out⟩
              by_cases hhi : 1000000 < y
              · go_wp2_with fail
                go_ret
                exact ⟨ret_bool (by rw [HPB.out, HJN.out (by unfold okT; simp; omega)]; simp), HB0.out⟩
              have HOX := Lib.hid (show 0 ≤ y ∧ y ≤ 1000000 by omega)
              have hlo' : decide (y < 0) = false := decide_eq_false hlo
              have hhi' : decide (1000000 < y) = false := decide_eq_false hhi
              go_upto_region 18 with fail
              clear hlo' hhi'
              have hcl : W0.cell? ⟨g0, a3, none⟩ = some (.int .i64 (CC 1 a3)) := by
                have h0 := HX0.out.cell a3
                rw [arrZ_get _ g3] at h0; exact h0
              have hfr := HX0.out.free a3
              have hbd := HBJ.out a3
              obtain ⟨z1, hz0⟩ : ∃ z, CC 1 a3 = z := ⟨_, rfl⟩
              rw [hz0] at hcl hbd
              have HZ0 := Lib.hid hz0
              have hw1 : wrap64 (z1 - y) = z1 - y := w64 (by have := HOX.out; omega)
              have hw2 : IntKind.i64.wrap (z1 - y) = z1 - y := IntWalk.i64_in _ (by have := HOX.out; omega)
              have x0 := HQ0.out.cell 0
              simp only [List.getElem?_toArray, List.getElem?_cons_zero] at x0
              clear hz0 hbd
              go_upto_region 19 with fail
              have HX1 := Lib.hid (HX0.out.put a3 (.int .i64 (z1 - y)))
              have HQ1 := Lib.hid (HQ0.out.far (p := ⟨g0, a3, none⟩) HGQ.out (.int .i64 (z1 - y)))
              have HB1 := Lib.hid (HB0.out.setCell (p := ⟨g0, a3, none⟩) HG0.out (.int .i64 (z1 - y)))
              rw [arrZ_put] at HX1
              obtain ⟨W1, hW1⟩ : ∃ W1, W0.setCell ⟨g0, a3, none⟩ (.int .i64 (z1 - y)) = W1 := ⟨_, rfl⟩
              rw [hW1] at HX1 HQ1 HB1 ⊢
              clear hW1 hcl hfr hw1 hw2 x0
              have hcl : W1.cell? ⟨g0, a2, none⟩ = some (.int .i64 (CC 1 a2)) := by
                have h0 := HX1.out.cell a2
                rw [arrZ_get _ g2, if_neg (show a2 ≠ a3 from HD3.out.2.2)] at h0; exact h0
              have hfr := HX1.out.free a2
              have hbd := HBJ.out a2
              obtain ⟨z2, hz1⟩ : ∃ z, CC 1 a2 = z := ⟨_, rfl⟩
              rw [hz1] at hcl hbd
              have HZ1 := Lib.hid hz1
              have hw1 : wrap64 (z2 - y) = z2 - y := w64 (by have := HOX.out; omega)
              have hw2 : IntKind.i64.wrap (z2 - y) = z2 - y := IntWalk.i64_in _ (by have := HOX.out; omega)
              have x1 := HQ1.out.cell 1
              simp only [List.getElem?_toArray, List.getElem?_cons_zero, List.getElem?_cons_succ] at x1
              clear hz1 hbd
              go_upto_region 20 with fail
              have HX2 := Lib.hid (HX1.out.put a2 (.int .i64 (z2 - y)))
              have HQ2 := Lib.hid (HQ1.out.far (p := ⟨g0, a2, none⟩) HGQ.out (.int .i64 (z2 - y)))
              have HB2 := Lib.hid (HB1.out.setCell (p := ⟨g0, a2, none⟩) HG0.out (.int .i64 (z2 - y)))
              rw [arrZ_put] at HX2
              obtain ⟨W2, hW2⟩ : ∃ W2, W1.setCell ⟨g0, a2, none⟩ (.int .i64 (z2 - y)) = W2 := ⟨_, rfl⟩
              rw [hW2] at HX2 HQ2 HB2 ⊢
              clear hW2 hcl hfr hw1 hw2 x1
              have hcl : W2.cell? ⟨g0, a1, none⟩ = some (.int .i64 (CC 1 a1)) := by
                have h0 := HX2.out.cell a1
                rw [arrZ_get _ g1, if_neg (show a1 ≠ a2 from HD3.out.1), if_neg (show a1 ≠ a3 from HD3.out.2.1)] at h0; exact h0
              have hfr := HX2.out.free a1
              have hbd := HBJ.out a1
              obtain ⟨z3, hz2⟩ : ∃ z, CC 1 a1 = z := ⟨_, rfl⟩
              rw [hz2] at hcl hbd
              have HZ2 := Lib.hid hz2
              have hw1 : wrap64 (z3 + y) = z3 + y := w64 (by have := HOX.out; omega)
              have hw2 : IntKind.i64.wrap (z3 + y) = z3 + y := IntWalk.i64_in _ (by have := HOX.out; omega)
              have x2 := HQ2.out.cell 2
              simp only [List.getElem?_toArray, List.getElem?_cons_zero, List.getElem?_cons_succ] at x2
              clear hz2 hbd
              go_wp2_with fail
              have HX3 := Lib.hid (HX2.out.put a1 (.int .i64 (z3 + y)))
              have HQ3 := Lib.hid (HQ2.out.far (p := ⟨g0, a1, none⟩) HGQ.out (.int .i64 (z3 + y)))
              have HB3 := Lib.hid (HB2.out.setCell (p := ⟨g0, a1, none⟩) HG0.out (.int .i64 (z3 + y)))
              rw [arrZ_put] at HX3
              obtain ⟨W3, hW3⟩ : ∃ W3, W2.setCell ⟨g0, a1, none⟩ (.int .i64 (z3 + y)) = W3 := ⟨_, rfl⟩
              rw [hW3] at HX3 HQ3 HB3 ⊢
              clear hW3 hcl hfr hw1 hw2 x2
              have HBF := HB3
              go_roundw
              case rel =>
                refine ⟨2, by first | rfl | go_num, by omega, Lib.hid (fun _ => HK1.out (by omega)), Lib.hid (fun _ => HOX.out), Lib.hid ?_, Lib.hid HBF.out⟩
                have h0 := HX3.out
                rw [← HZ0.out, ← HZ1.out, ← HZ2.out] at h0
                have h1 := put3_turn (CC 1) HD3.out.1 HD3.out.2.1 HD3.out.2.2 y
                have h2 : (fun t => CC 1 t - lostE ((a1 : Int), (a2 : Int), (a3 : Int)) 0 y t) = CC 2 := by rw [HC2.out, ← HNX.out, HC1.out]
                rw [h2] at h1
                rw [← h1]
                exact h0
              case measure => simp [intOf]
            | 2, _ =>
              have HOY := Lib.hid (show okT (x, y) = true by
                have h1 := HK1.out (by omega)
                have h2 := HK2.out (by omega)
                unfold okT; simp; omega)
              clear hj0 hj1
              go_wp2_with fail
              go_roundw
              case rel =>
                refine ⟨i + 1, by go_num, by omega, Lib.hid ?_, Lib.hid ?_, HB⟩
                · rw [HJT.out, HO.out, HOY.out]; rfl
                · rw [← HC2.out]; exact HX.out
              case measure => simp [intOf]; omega
            | j + 3, hj => omega
        · obtain rfl : i = l.length := by omega
          have hsz : (Try.prog.info? 128).map (·.size) = some (arrZ (leftK k l js p q m l.length)).size := by rw [arrZ_size]; kernel_rfl
          have heq := eqZ (leftK k l js p q m l.length)
          rw [arrZ_zero] at heq
          go_wp2_with (refine wpList_load_row rfl _ _ rfl g0 rfl 128 _ (0, 0) _ HX.out Try.underlying128 rfl hsz ?_)
          go_ret
          refine ⟨ret_bool ?_, HB.out⟩
          have ho := HO.out
          rw [← HLN.out, List.take_length] at ho
          rw [HPB.out, ho, zeroB_plan hn HOK.out]
          simp
end Go.Proofs.Ythbhengcinkepaa
