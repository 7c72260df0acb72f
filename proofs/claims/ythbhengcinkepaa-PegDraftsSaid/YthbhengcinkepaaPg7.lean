/- The methods of a jump, and the comparison of two jumps that the sort is handed. -/
import Derived.Test.YthbhengcinkepaaPg6

namespace Go.Proofs.Ythbhengcinkepaa
open Go.RowKit Lamp

theorem or2k (a b : Nat) (ha : a < 16) (hb : b < 16) : bits BinOp.or IntKind.i64 (IntKind.i64.wrap (2 ^ a)) (IntKind.i64.wrap (2 ^ b)) = ((takenM ((a : Int), (b : Int), 0) : Nat) : Int) := by
  have h1 := pow_l16 ha
  have h2 := pow_l16 hb
  rw [shl_k a ha, shl_k b hb, i64_or _ _ (by omega) (by omega)]
  rfl
theorem orwk (a x : Nat) (ha : a < 65536) (hx : x < 16) : bits BinOp.or IntKind.i64 (a : Int) (IntKind.i64.wrap (2 ^ x)) = ((a ||| 2 ^ x : Nat) : Int) := by
  have h1 := pow_l16 hx
  rw [shl_k x hx, i64_or a (2 ^ x) (by omega) (by omega)]
theorem below_alloc {B : Nat} {w : World} (hB : B ≤ w.heap.size) (o : Obj) : Below B w (w.alloc o) := (Below.refl _ w).alloc hB o
set_option maxHeartbeats 1000000 in
theorem taken_any (a b c : Nat) (w : World) (ha : a < 16) (hb : b < 16) :
    Calls Try.prog 107 #[.agg #[.int .i64 a, .int .i64 b, .int .i64 c]] w fun e w' => e = .returned (.int .i64 ((takenM ((a : Int), (b : Int), (c : Int)) : Nat) : Int)) ∧ Below w.heap.size w w' := by
  have hp1 : (0 : Int) ≤ (a : Int) := by omega
  have hp2 : (0 : Int) ≤ (b : Int) := by omega
  have HM := Lib.hid (or2 a b ha hb)
  have HM2 := Lib.hid (or2k a b ha hb)
  go_enter Try.func107, Try.ntmps107
  go_wp2
  go_quiet (fail)
  go_wp2
  go_ret
  refine ⟨ret_int ?_, belowT_drewN (below_alloc (Nat.le_refl _) _) _⟩
  first
    | exact HM.out
    | exact HM2.out
theorem taken_of (a b c : Nat) (w : World) (ha : a < 16) (hb : b < 16) {v : Nat} (hv : takenM ((a : Int), (b : Int), (c : Int)) = v) :
    Calls Try.prog 107 #[.agg #[.int .i64 a, .int .i64 b, .int .i64 c]] w fun e w' => e = .returned (.int .i64 (v : Int)) ∧ Below w.heap.size w w' := by rw [← hv]; exact taken_any a b c w ha hb

set_option maxHeartbeats 1000000 in
theorem holes_any (a b c : Nat) (w : World) (ha : a < 16) (hb : b < 16) (hc : c < 16) :
    Calls Try.prog 106 #[.agg #[.int .i64 a, .int .i64 b, .int .i64 c]] w fun e w' => e = .returned (.int .i64 ((holesM ((a : Int), (b : Int), (c : Int)) : Nat) : Int)) ∧ Below w.heap.size w w' := by
  have hp3 : (0 : Int) ≤ (c : Int) := by omega
  obtain ⟨t, ht⟩ : ∃ t, takenM ((a : Int), (b : Int), (c : Int)) = t := ⟨_, rfl⟩
  have ht16 : t < 65536 := by rw [← ht]; exact Nat.or_lt_two_pow (n := 16) (pow_l16 ha) (pow_l16 hb)
  have HH := Lib.hid (show holesM ((a : Int), (b : Int), (c : Int)) = t ||| 2 ^ c by rw [← ht]; rfl)
  have HK := Lib.hid (orwk t c ht16 hc)
  have HT := Lib.hid ht
  clear ht ht16
  go_enter Try.func106, Try.ntmps106
  go_upto_region 1 with fail
  have hbox := Box.new w 105 #[Value.int IntKind.i64 a, Value.int IntKind.i64 b, Value.int IntKind.i64 c]
  have HB0 := Lib.hid (below_alloc (w := w) (Nat.le_refl _) (Obj.cells #[Value.int IntKind.i64 a, Value.int IntKind.i64 b, Value.int IntKind.i64 c] 105))
  have hsz : (w.alloc (Obj.cells #[Value.int IntKind.i64 a, Value.int IntKind.i64 b, Value.int IntKind.i64 c] 105)).heap.size = w.heap.size + 1 := by simp
  obtain ⟨W0, hw0⟩ : ∃ W0, w.alloc (Obj.cells #[Value.int IntKind.i64 a, Value.int IntKind.i64 b, Value.int IntKind.i64 c] 105) = W0 := ⟨_, rfl⟩
  rw [hw0] at hbox HB0 hsz ⊢
  have x0 := hbox.cell 0
  have x1 := hbox.cell 1
  have x2 := hbox.cell 2
  simp only [List.getElem?_toArray, List.getElem?_cons_zero, List.getElem?_cons_succ] at x0 x1 x2
  have HX0 := Lib.hid x0
  have HX1 := Lib.hid x1
  have HX2 := Lib.hid x2
  have hlt : w.heap.size < W0.heap.size := by omega
  clear hw0 x0 x1 x2 hbox hsz
  refine wp_region_held_drew (S := fun w' => Below W0.heap.size W0 w' ∧ w'.cell? ⟨w.heap.size, 0, none⟩ = some (.int .i64 a) ∧ w'.cell? ⟨w.heap.size, 1, none⟩ = some (.int .i64 b) ∧ w'.cell? ⟨w.heap.size, 2, none⟩ = some (.int .i64 c)) (by kernel_rfl) ⟨belowT_drewN (Below.refl _ _) 1, HX0.out, HX1.out, HX2.out⟩ (fun hHeld => ?_)
  refine wpAnyH_take (i := 0) (v := ?_) rfl (by kernel_rfl) (by kernel_rfl) (by kernel_rfl) (fun _ _ _ h => h) (Or.inl ⟨by rfl, ?_⟩) (by assumption) ?_
  rotate_left
  · (intro w hSw; (try dsimp only at hSw); go_simp <;> (with_reducible rfl))
  try simp only [Act.put, List.setIfInBounds_toArray, List.set_cons_zero, List.set_cons_succ, List.getElem_toArray, List.getElem_cons_zero]
  refine wpAnyH_take (i := 2) (v := ?_) rfl (by kernel_rfl) (by kernel_rfl) (by kernel_rfl) (fun _ _ _ h => h) (Or.inl ⟨by rfl, ?_⟩) (by assumption) ?_
  rotate_left
  · (intro w hSw; (try dsimp only at hSw); go_simp <;> (with_reducible rfl))
  try simp only [Act.put, List.setIfInBounds_toArray, List.set_cons_zero, List.set_cons_succ, List.getElem_toArray, List.getElem_cons_zero, List.getElem_cons_succ]
  refine wpAnyH_take (i := 3) (v := ?_) rfl (by kernel_rfl) (by kernel_rfl) (by kernel_rfl) (fun _ _ _ h => h) (Or.inl ⟨by rfl, ?_⟩) (by assumption) ?_
  rotate_left
  · (intro w hSw; (try dsimp only at hSw); go_simp <;> (with_reducible rfl))
  try simp only [Act.put, List.setIfInBounds_toArray, List.set_cons_zero, List.set_cons_succ, List.getElem_toArray, List.getElem_cons_zero, List.getElem_cons_succ]
  refine wpAnyH_take (i := 4) (v := ?_) rfl (by kernel_rfl) (by kernel_rfl) (by kernel_rfl) (fun _ _ _ h => h) (Or.inl ⟨by rfl, ?_⟩) (by assumption) ?_
  rotate_left
  · (intro w hSw; (try dsimp only at hSw); go_simp <;> (with_reducible rfl))
  try simp only [Act.put, List.setIfInBounds_toArray, List.set_cons_zero, List.set_cons_succ, List.getElem_toArray, List.getElem_cons_zero, List.getElem_cons_succ]
  refine wpAnyH_ready (rs := [1]) (by kernel_rfl) (by simp) ?_
  refine AllReadyH.cons rfl (fun K hK => ?_) AllReadyH.nil
  go_simp
  go_at_call 107
  refine (taken_of a b c _ ha hb HT.out).mono ?_
  rintro e w' ⟨rfl, hbn⟩
  have hS2 := hHeld.1.trans (hbn.mono hHeld.1.size)
  clear hbn
  go_wp2_with fail
  refine hK.out _ _ ?_ (fun hHeld => ?_)
  · exact ⟨hS2, (hS2.cell (p := ⟨w.heap.size, 0, none⟩) hlt).trans HX0.out, (hS2.cell (p := ⟨w.heap.size, 1, none⟩) hlt).trans HX1.out, (hS2.cell (p := ⟨w.heap.size, 2, none⟩) hlt).trans HX2.out⟩
  clear hK K hS2
  try simp only [Act.put, List.setIfInBounds_toArray, List.set_cons_zero, List.set_cons_succ, List.getElem_toArray, List.getElem_cons_zero, List.getElem_cons_succ]
  refine wpAnyH_take (i := 5) (v := ?_) rfl (by kernel_rfl) (by kernel_rfl) (by kernel_rfl) (fun _ _ _ h => h) (Or.inl ⟨by rfl, ?_⟩) (by assumption) ?_
  rotate_left
  · (intro w hSw; (try dsimp only at hSw); go_simp <;> (with_reducible rfl))
  try simp only [Act.put, List.setIfInBounds_toArray, List.set_cons_zero, List.set_cons_succ, List.getElem_toArray, List.getElem_cons_zero, List.getElem_cons_succ]
  refine wpAnyH_take (i := 6) (v := ?_) rfl (by kernel_rfl) (by kernel_rfl) (by kernel_rfl) (fun _ _ _ h => h) (Or.inl ⟨by rfl, ?_⟩) (by assumption) ?_
  rotate_left
  · (intro w hSw; (try dsimp only at hSw); go_simp <;> (with_reducible rfl))
  try simp only [Act.put, List.setIfInBounds_toArray, List.set_cons_zero, List.set_cons_succ, List.getElem_toArray, List.getElem_cons_zero, List.getElem_cons_succ]
  refine wpAnyH_done (by kernel_rfl) ?_ _
  go_wp2_with fail
  go_ret
  refine ⟨ret_int ?_, HB0.out.trans (hHeld.1.mono HB0.out.size)⟩
  rw [HH.out]; exact HK.out
theorem holes_of (a b c : Nat) (w : World) (ha : a < 16) (hb : b < 16) (hc : c < 16) {v : Nat} (hv : holesM ((a : Int), (b : Int), (c : Int)) = v) :
    Calls Try.prog 106 #[.agg #[.int .i64 a, .int .i64 b, .int .i64 c]] w fun e w' => e = .returned (.int .i64 (v : Int)) ∧ Below w.heap.size w w' := by rw [← hv]; exact holes_any a b c w ha hb hc

theorem canJ_val (p h t : Nat) (hp : p < 65536) (hh : h < 65536) : ((bits BinOp.and IntKind.i64 (p : Int) (h : Int)) == (t : Int)) = (p &&& h == t) := by
  rw [i64_and p h (by omega) (by omega)]
  rw [Bool.eq_iff_iff]
  simp only [beq_iff_eq]
  omega
set_option maxHeartbeats 1000000 in
theorem isPossible_any (a b c p : Nat) (w : World) (ha : a < 16) (hb : b < 16) (hc : c < 16) (hp : p < 65536) :
    Calls Try.prog 64 #[.agg #[.int .i64 a, .int .i64 b, .int .i64 c], .int .i64 p] w fun e w' => e = .returned (.bool (canJ ((a : Int), (b : Int), (c : Int)) p)) ∧ Below w.heap.size w w' := by
  obtain ⟨t, ht⟩ : ∃ t, takenM ((a : Int), (b : Int), (c : Int)) = t := ⟨_, rfl⟩
  obtain ⟨h, hh⟩ : ∃ h, holesM ((a : Int), (b : Int), (c : Int)) = h := ⟨_, rfl⟩
  have hh16 : h < 65536 := by rw [← hh]; exact Nat.or_lt_two_pow (n := 16) (Nat.or_lt_two_pow (n := 16) (pow_l16 ha) (pow_l16 hb)) (pow_l16 hc)
  have HC := Lib.hid (show canJ ((a : Int), (b : Int), (c : Int)) p = (p &&& h == t) by unfold canJ; rw [hh, ht])
  have HV := Lib.hid (canJ_val p h t hp hh16)
  have HT := Lib.hid ht
  have HH := Lib.hid hh
  clear ht hh hh16
  go_enter Try.func64, Try.ntmps64
  go_upto_region 1 with fail
  have hbox := Box.new w 105 #[Value.int IntKind.i64 a, Value.int IntKind.i64 b, Value.int IntKind.i64 c]
  have HB0 := Lib.hid (below_alloc (w := w) (Nat.le_refl _) (Obj.cells #[Value.int IntKind.i64 a, Value.int IntKind.i64 b, Value.int IntKind.i64 c] 105))
  have hsz : (w.alloc (Obj.cells #[Value.int IntKind.i64 a, Value.int IntKind.i64 b, Value.int IntKind.i64 c] 105)).heap.size = w.heap.size + 1 := by simp
  obtain ⟨W0, hw0⟩ : ∃ W0, w.alloc (Obj.cells #[Value.int IntKind.i64 a, Value.int IntKind.i64 b, Value.int IntKind.i64 c] 105) = W0 := ⟨_, rfl⟩
  rw [hw0] at hbox HB0 hsz ⊢
  have x0 := hbox.cell 0
  have x1 := hbox.cell 1
  have x2 := hbox.cell 2
  simp only [List.getElem?_toArray, List.getElem?_cons_zero, List.getElem?_cons_succ] at x0 x1 x2
  have HX0 := Lib.hid x0
  have HX1 := Lib.hid x1
  have HX2 := Lib.hid x2
  have hlt : w.heap.size < W0.heap.size := by omega
  clear hw0 x0 x1 x2 hbox hsz
  refine wp_region_held_drew (S := fun w' => Below W0.heap.size W0 w' ∧ w'.cell? ⟨w.heap.size, 0, none⟩ = some (.int .i64 a) ∧ w'.cell? ⟨w.heap.size, 1, none⟩ = some (.int .i64 b) ∧ w'.cell? ⟨w.heap.size, 2, none⟩ = some (.int .i64 c)) (by kernel_rfl) ⟨belowT_drewN (Below.refl _ _) 1, HX0.out, HX1.out, HX2.out⟩ (fun hHeld => ?_)
  refine wpAnyH_take (i := 0) (v := ?_) rfl (by kernel_rfl) (by kernel_rfl) (by kernel_rfl) (fun _ _ _ h => h) (Or.inl ⟨by rfl, ?_⟩) (by assumption) ?_
  rotate_left
  · (intro w hSw; (try dsimp only at hSw); go_simp <;> (with_reducible rfl))
  try simp only [Act.put, List.setIfInBounds_toArray, List.set_cons_zero, List.set_cons_succ, List.getElem_toArray, List.getElem_cons_zero]
  refine wpAnyH_take (i := 1) (v := ?_) rfl (by kernel_rfl) (by kernel_rfl) (by kernel_rfl) (fun _ _ _ h => h) (Or.inl ⟨by rfl, ?_⟩) (by assumption) ?_
  rotate_left
  · (intro w hSw; (try dsimp only at hSw); go_simp <;> (with_reducible rfl))
  try simp only [Act.put, List.setIfInBounds_toArray, List.set_cons_zero, List.set_cons_succ, List.getElem_toArray, List.getElem_cons_zero, List.getElem_cons_succ]
  refine wpAnyH_take (i := 4) (v := ?_) rfl (by kernel_rfl) (by kernel_rfl) (by kernel_rfl) (fun _ _ _ h => h) (Or.inl ⟨by rfl, ?_⟩) (by assumption) ?_
  rotate_left
  · (intro w hSw; (try dsimp only at hSw); go_simp <;> (with_reducible rfl))
  try simp only [Act.put, List.setIfInBounds_toArray, List.set_cons_zero, List.set_cons_succ, List.getElem_toArray, List.getElem_cons_zero, List.getElem_cons_succ]
  refine wpAnyH_ready (rs := [2]) (by kernel_rfl) (by simp) ?_
  refine AllReadyH.cons rfl (fun K hK => ?_) AllReadyH.nil
  go_simp
  go_at_call 106
  refine (holes_of a b c _ ha hb hc HH.out).mono ?_
  rintro e w' ⟨rfl, hbn⟩
  have hS2 := hHeld.1.trans (hbn.mono hHeld.1.size)
  clear hbn
  go_wp2_with fail
  refine hK.out _ _ ?_ (fun hHeld => ?_)
  · exact ⟨hS2, (hS2.cell (p := ⟨w.heap.size, 0, none⟩) hlt).trans HX0.out, (hS2.cell (p := ⟨w.heap.size, 1, none⟩) hlt).trans HX1.out, (hS2.cell (p := ⟨w.heap.size, 2, none⟩) hlt).trans HX2.out⟩
  clear hK K hS2
  try simp only [Act.put, List.setIfInBounds_toArray, List.set_cons_zero, List.set_cons_succ, List.getElem_toArray, List.getElem_cons_zero, List.getElem_cons_succ]
  refine wpAnyH_take (i := 3) (v := ?_) rfl (by kernel_rfl) (by kernel_rfl) (by kernel_rfl) (fun _ _ _ h => h) (Or.inl ⟨by rfl, ?_⟩) (by assumption) ?_
  rotate_left
  · (intro w hSw; (try dsimp only at hSw); go_simp <;> (with_reducible rfl))
  try simp only [Act.put, List.setIfInBounds_toArray, List.set_cons_zero, List.set_cons_succ, List.getElem_toArray, List.getElem_cons_zero, List.getElem_cons_succ]
  refine wpAnyH_ready (rs := [5]) (by kernel_rfl) (by simp) ?_
  refine AllReadyH.cons rfl (fun K hK => ?_) AllReadyH.nil
  go_simp
  go_at_call 107
  refine (taken_of a b c _ ha hb HT.out).mono ?_
  rintro e w' ⟨rfl, hbn⟩
  have hS2 := hHeld.1.trans (hbn.mono hHeld.1.size)
  clear hbn
  go_wp2_with fail
  refine hK.out _ _ ?_ (fun hHeld => ?_)
  · exact ⟨hS2, (hS2.cell (p := ⟨w.heap.size, 0, none⟩) hlt).trans HX0.out, (hS2.cell (p := ⟨w.heap.size, 1, none⟩) hlt).trans HX1.out, (hS2.cell (p := ⟨w.heap.size, 2, none⟩) hlt).trans HX2.out⟩
  clear hK K hS2
  try simp only [Act.put, List.setIfInBounds_toArray, List.set_cons_zero, List.set_cons_succ, List.getElem_toArray, List.getElem_cons_zero, List.getElem_cons_succ]
  refine wpAnyH_take (i := 6) (v := ?_) rfl (by kernel_rfl) (by kernel_rfl) (by kernel_rfl) (fun _ _ _ h => h) (Or.inl ⟨by rfl, ?_⟩) (by assumption) ?_
  rotate_left
  · (intro w hSw; (try dsimp only at hSw); go_simp <;> (with_reducible rfl))
  try simp only [Act.put, List.setIfInBounds_toArray, List.set_cons_zero, List.set_cons_succ, List.getElem_toArray, List.getElem_cons_zero, List.getElem_cons_succ]
  refine wpAnyH_take (i := 7) (v := ?_) rfl (by kernel_rfl) (by kernel_rfl) (by kernel_rfl) (fun _ _ _ h => h) (Or.inl ⟨by rfl, ?_⟩) (by assumption) ?_
  rotate_left
  · (intro w hSw; (try dsimp only at hSw); go_simp <;> (with_reducible rfl))
  try simp only [Act.put, List.setIfInBounds_toArray, List.set_cons_zero, List.set_cons_succ, List.getElem_toArray, List.getElem_cons_zero, List.getElem_cons_succ]
  refine wpAnyH_done (by kernel_rfl) ?_ _
  go_wp2_with fail
  go_ret
  refine ⟨ret_bool ?_, HB0.out.trans (hHeld.1.mono HB0.out.size)⟩
  rw [HC.out, ← HV.out]
theorem isPossible_of {a b c p : Nat} (w : World) (ha : a < 16) (hb : b < 16) (hc : c < 16) (hp : p < 65536) {v : Bool} (hv : canJ ((a : Int), (b : Int), (c : Int)) p = v) :
    Calls Try.prog 64 #[.agg #[.int .i64 a, .int .i64 b, .int .i64 c], .int .i64 p] w fun e w' => e = .returned (.bool v) ∧ Below w.heap.size w w' := by rw [← hv]; exact isPossible_any a b c p w ha hb hc hp

/-- The first number that is not 0. -/
def orT (x y z : Int) : Int := if x ≠ 0 then x else if y ≠ 0 then y else z
set_option maxHeartbeats 1000000 in
theorem Or_three (B : Nat) (x y z : Int) (w : World) (h0 : w.cell? ⟨B, 0, none⟩ = some (.int .i64 x)) (h1 : w.cell? ⟨B, 1, none⟩ = some (.int .i64 y)) (h2 : w.cell? ⟨B, 2, none⟩ = some (.int .i64 z)) :
    Calls Try.prog 101 #[.slice (some ⟨B, 0, none⟩) 3 3] w fun e w' => e = .returned (.int .i64 (orT x y z)) ∧ w = w' := by
  have HD := Lib.hid (show orT x y z = if x ≠ 0 then x else if y ≠ 0 then y else z from rfl)
  go_enter Try.func101, Try.ntmps101
  go_wp2_with fail
  go_loop [8] (fun i => ∃ k : Nat, i = .int .i64 k ∧ k ≤ 3 ∧ (1 ≤ k → x = 0) ∧ (2 ≤ k → y = 0) ∧ (3 ≤ k → z = 0)) (fun i => 3 - (intOf i).toNat)
  case atStart => exact ⟨0, rfl, by omega, by omega, by omega, by omega⟩
  case round =>
    obtain ⟨k, rfl, hk, he0, he1, he2⟩ := hrel
    have HE0 := Lib.hid he0
    have HE1 := Lib.hid he1
    have HE2 := Lib.hid he2
    clear he0 he1 he2
    match k, hk with
    | 0, _ =>
      by_cases hq : x = 0
      · have hb : (x != 0) = false := by simpa using hq
        have HQ := Lib.hid hq
        clear hq
        go_wp2_with fail
        go_round
        case rel => exact ⟨1, by first | rfl | go_num, by omega, fun _ => HQ.out, by omega, by omega⟩
        case measure => simp [intOf]
      · have hb : (x != 0) = true := by simpa using hq
        have HQ := Lib.hid hq
        clear hq
        go_wp2_with fail
        go_ret
        exact ⟨ret_int (by rw [HD.out, if_pos HQ.out]), rfl⟩
    | 1, _ =>
      have HQ0 := Lib.hid (HE0.out (by omega))
      by_cases hq : y = 0
      · have hb : (y != 0) = false := by simpa using hq
        have HQ := Lib.hid hq
        clear hq
        go_wp2_with fail
        go_round
        case rel => exact ⟨2, by first | rfl | go_num, by omega, fun _ => HQ0.out, fun _ => HQ.out, by omega⟩
        case measure => simp [intOf]
      · have hb : (y != 0) = true := by simpa using hq
        have HQ := Lib.hid hq
        clear hq
        go_wp2_with fail
        go_ret
        exact ⟨ret_int (by rw [HD.out, if_neg (by rw [HQ0.out]; simp), if_pos HQ.out]), rfl⟩
    | 2, _ =>
      have HQ0 := Lib.hid (HE0.out (by omega))
      have HQ1 := Lib.hid (HE1.out (by omega))
      by_cases hq : z = 0
      · have hb : (z != 0) = false := by simpa using hq
        have HQ := Lib.hid hq
        clear hq
        go_wp2_with fail
        go_round
        case rel => exact ⟨3, by first | rfl | go_num, by omega, fun _ => HQ0.out, fun _ => HQ1.out, fun _ => HQ.out⟩
        case measure => simp [intOf]
      · have hb : (z != 0) = true := by simpa using hq
        have HQ := Lib.hid hq
        clear hq
        go_wp2_with fail
        go_ret
        exact ⟨ret_int (by rw [HD.out, if_neg (by rw [HQ0.out]; simp), if_neg (by rw [HQ1.out]; simp)]), rfl⟩
    | 3, _ =>
      have HQ0 := Lib.hid (HE0.out (by omega))
      have HQ1 := Lib.hid (HE1.out (by omega))
      have HQ2 := Lib.hid (HE2.out (by omega))
      go_wp2_with fail
      go_ret
      exact ⟨ret_int (by rw [HD.out, if_neg (by rw [HQ0.out]; simp), if_neg (by rw [HQ1.out]; simp), HQ2.out]), rfl⟩
    | k + 4, hk => omega
theorem orT_cmp (x y : Tri) : orT (Lib.compareInt x.1 y.1) (orT (Lib.compareInt x.2.1 y.2.1) (Lib.compareInt x.2.2 y.2.2) 0) 0 = cmpT x y := by
  unfold orT cmpT Lib.compareInt
  repeat' split
  all_goals first | omega | (exfalso; omega) | simp_all

theorem from_any (a b c p : Nat) (w : World) (ha : a < 16) (hb : b < 16) (hc : c < 16) (hp : p < 65536) :
    Calls Try.prog 65 #[.agg #[.int .i64 a, .int .i64 b, .int .i64 c], .int .i64 p] w fun e w' => e = .returned (.int .i64 ((fromJ ((a : Int), (b : Int), (c : Int)) p : Nat) : Int)) ∧ Below w.heap.size w w' := by
  obtain ⟨h, hh⟩ : ∃ h, holesM ((a : Int), (b : Int), (c : Int)) = h := ⟨_, rfl⟩
  have hh16 : h < 65536 := by rw [← hh]; exact Nat.or_lt_two_pow (n := 16) (Nat.or_lt_two_pow (n := 16) (pow_l16 ha) (pow_l16 hb)) (pow_l16 hc)
  have HF := Lib.hid (show fromJ ((a : Int), (b : Int), (c : Int)) p = p ^^^ h by unfold fromJ; rw [hh])
  have HX := Lib.hid (i64_xor p h (by omega) (by omega))
  have HH := Lib.hid hh
  clear hh hh16
  go_enter Try.func65, Try.ntmps65
  go_wp2_with (go_at_call 106; refine (holes_of a b c _ ha hb hc HH.out).mono ?_; rintro e w' ⟨rfl, hbn⟩)
  have HB := Lib.hid ((below_alloc (w := w) (Nat.le_refl _) (Obj.cells #[Value.int IntKind.i64 a, Value.int IntKind.i64 b, Value.int IntKind.i64 c] 105)).trans (hbn.mono (by simp)))
  go_ret
  exact ⟨ret_int (by rw [HF.out, ← HX.out]), HB.out⟩
theorem from_of {a b c p : Nat} (w : World) (ha : a < 16) (hb : b < 16) (hc : c < 16) (hp : p < 65536) {v : Nat} (hv : fromJ ((a : Int), (b : Int), (c : Int)) p = v) :
    Calls Try.prog 65 #[.agg #[.int .i64 a, .int .i64 b, .int .i64 c], .int .i64 p] w fun e w' => e = .returned (.int .i64 (v : Int)) ∧ Below w.heap.size w w' := by rw [← hv]; exact from_any a b c p w ha hb hc hp
set_option maxHeartbeats 1000000 in
theorem list_any (a b c : Int) (w : World) :
    Calls Try.prog 60 #[.agg #[.int .i64 a, .int .i64 b, .int .i64 c]] w fun e w' => e = .returned (.agg #[.int .i64 a, .int .i64 b, .int .i64 c]) ∧ Below w.heap.size w w' := by
  go_enter Try.func60, Try.ntmps60
  go_wp2
  go_returns
  refine ⟨?_, ?_⟩
  · rfl
  · repeat' refine Below.setCell ?_ (Nat.le_succ _) _
    exact (below_alloc (Nat.le_refl _) _).alloc (by simp) _
end Go.Proofs.Ythbhengcinkepaa
