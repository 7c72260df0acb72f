/- Comparing two pairs, the checks of package light. -/
import Derived.Test.YthbhengcinkepaaLig1
import Derived.Test.YthbhengcinkepaaBoxes
import Derived.Test.YthbhengcinkepaaShelf4
import Derived.Deep.RegionHeld3
import Derived.StillTailTactics
import Derived.IntWalk
namespace Go.Proofs.Ythbhengcinkepaa.Lig
open Go.RowKit Lamp

/-- The pairs' numbers, one behind the other. -/
def edgeV (l : List (Int × Int)) : List Value := l.flatMap fun e => [Value.int .i64 e.1, Value.int .i64 e.2]
def REdges (w : World) (B : Nat) (A : Option Addr) (l : List (Int × Int)) : Prop := Lies w B A (edgeV l)
theorem edgeV_at (l : List (Int × Int)) (k : Nat) (e : Int × Int) (h : l[k]? = some e) : (edgeV l)[2 * k]? = some (Value.int .i64 e.1) ∧ (edgeV l)[2 * k + 1]? = some (Value.int .i64 e.2) := by
  induction l generalizing k with
  | nil => simp at h
  | cons a l ih =>
    cases k with
    | zero => simp at h; subst h; exact ⟨rfl, rfl⟩
    | succ k =>
      have h1 := ih k (by simpa using h)
      exact h1
theorem REdges.at_ {w : World} {B : Nat} {A : Option Addr} {l : List (Int × Int)} {k : Nat} (h : REdges w B A l) (hk : k < l.length) : ∃ b o x y, A = some ⟨b, o, none⟩ ∧ b < B ∧ l[k]? = some (x, y) ∧ w.cell? ⟨b, o + k * 2, none⟩ = some (.int .i64 x) ∧ w.cell? ⟨b, o + k * 2 + 1, none⟩ = some (.int .i64 y) := by
  have h0 : l[k]? = some l[k] := List.getElem?_eq_getElem hk
  obtain ⟨h1, h2⟩ := edgeV_at l k _ h0
  obtain ⟨b, o, e, hb, hc⟩ := h _ _ h1
  obtain ⟨b', o', e', _, hc'⟩ := h _ _ h2
  rw [e] at e'
  cases e'
  rw [Nat.mul_comm] at hc hc'
  exact ⟨b, o, _, _, e, hb, h0, hc, by rw [Nat.add_assoc]; exact hc'⟩
theorem REdges.keep {w w' : World} {B : Nat} {A : Option Addr} {l : List (Int × Int)} (h : REdges w B A l) (hb : Below B w w') : REdges w' B A l := Lies.below h hb

theorem isEdge_of (n a b : Int) (w : World) {v : Bool} (h : edgeB n (a, b) = v) :
    Calls Try.prog 164 #[.int .i64 n, .agg #[.int .i64 a, .int .i64 b]] w fun e w' => e = .returned (.bool v) ∧ ∃ k, w' = (w.alloc (Obj.cells #[.int .i64 a, .int .i64 b] 41)).drewN k := by
  rw [← h]; exact isEdge_any n a b w

def ltP (a b : Int × Int) : Bool := decide (a.1 < b.1) || (decide (a.1 = b.1) && decide (a.2 < b.2))
def cmpP (a b : Int × Int) : Int := if a.1 < b.1 then -1 else if a.1 > b.1 then 1 else if a.2 < b.2 then -1 else if a.2 > b.2 then 1 else 0
theorem cmpP_lt (a b : Int × Int) : decide (0 ≤ cmpP a b) = !ltP a b := by
  unfold cmpP ltP
  rw [Bool.eq_iff_iff]
  simp only [decide_eq_true_eq, Bool.not_eq_true', Bool.or_eq_false_iff, Bool.and_eq_false_iff, decide_eq_false_iff_not]
  repeat' split
  all_goals omega

set_option maxHeartbeats 400000 in
theorem Compare_two (b1 o1 b2 o2 c1 c2 : Nat) (a0 a1 d0 d1 : Int) (w : World) (h1 : w.cell? ⟨b1, o1, none⟩ = some (.int .i64 a0)) (h2 : w.cell? ⟨b1, o1 + 1, none⟩ = some (.int .i64 a1)) (h3 : w.cell? ⟨b2, o2, none⟩ = some (.int .i64 d0)) (h4 : w.cell? ⟨b2, o2 + 1, none⟩ = some (.int .i64 d1)) :
    Calls Try.prog 104 #[.slice (some ⟨b1, o1, none⟩) 2 c1, .slice (some ⟨b2, o2, none⟩) 2 c2] w fun e w' => e = .returned (.int .i64 (cmpP (a0, a1) (d0, d1))) ∧ w = w' := by
  have HD := Lib.hid (show cmpP (a0, a1) (d0, d1) = if a0 < d0 then -1 else if a0 > d0 then 1 else if a1 < d1 then -1 else if a1 > d1 then 1 else 0 from rfl)
  go_enter Try.func104, Try.ntmps104
  go_wp2_with fail
  go_loop [11] (fun i => ∃ k : Nat, i = .int .i64 k ∧ k ≤ 2 ∧ (1 ≤ k → a0 = d0) ∧ (2 ≤ k → a1 = d1)) (fun i => 2 - (intOf i).toNat)
  case atStart => exact ⟨0, rfl, by omega, by omega, by omega⟩
  case round =>
    obtain ⟨k, rfl, hk, he0, he1⟩ := hrel
    have HE0 := Lib.hid he0
    have HE1 := Lib.hid he1
    clear he0 he1
    match k, hk with
    | 0, _ =>
      go_wp2_with fail
      refine (Try.cmp_Compare_int a0 d0 w).mono ?_
      rintro e w' ⟨rfl, rfl⟩
      by_cases hlt : a0 < d0
      · have hr : Lib.compareInt a0 d0 = -1 := if_pos hlt
        rw [hr]
        clear hr
        go_wp2_with fail
        go_ret
        exact ⟨ret_int (by rw [HD.out, if_pos hlt]), rfl⟩
      · by_cases hgt : a0 > d0
        · have hr : Lib.compareInt a0 d0 = 1 := by unfold Lib.compareInt; rw [if_neg hlt, if_pos hgt]
          rw [hr]
          clear hr
          go_wp2_with fail
          go_ret
          exact ⟨ret_int (by rw [HD.out, if_neg (by omega), if_pos (by omega)]), rfl⟩
        · have hr : Lib.compareInt a0 d0 = 0 := by unfold Lib.compareInt; rw [if_neg hlt, if_neg hgt]
          rw [hr]
          clear hr
          have hq : a0 = d0 := by omega
          have HQ := Lib.hid hq
          clear hq
          go_wp2_with fail
          go_round
          case rel => exact ⟨1, by first | rfl | go_num, by omega, fun _ => HQ.out, by omega⟩
          case measure => simp [intOf]
    | 1, _ =>
      have HQ := Lib.hid (HE0.out (by omega))
      go_wp2_with fail
      refine (Try.cmp_Compare_int a1 d1 w).mono ?_
      rintro e w' ⟨rfl, rfl⟩
      by_cases hlt : a1 < d1
      · have hr : Lib.compareInt a1 d1 = -1 := if_pos hlt
        rw [hr]
        clear hr
        go_wp2_with fail
        go_ret
        exact ⟨ret_int (by have := HQ.out; rw [HD.out, if_neg (by omega), if_neg (by omega), if_pos hlt]), rfl⟩
      · by_cases hgt : a1 > d1
        · have hr : Lib.compareInt a1 d1 = 1 := by unfold Lib.compareInt; rw [if_neg hlt, if_pos hgt]
          rw [hr]
          clear hr
          go_wp2_with fail
          go_ret
          exact ⟨ret_int (by have := HQ.out; rw [HD.out, if_neg (by omega), if_neg (by omega), if_neg (by omega), if_pos (by omega)]), rfl⟩
        · have hr : Lib.compareInt a1 d1 = 0 := by unfold Lib.compareInt; rw [if_neg hlt, if_neg hgt]
          rw [hr]
          clear hr
          have hq : a1 = d1 := by omega
          have HQ2 := Lib.hid hq
          clear hq
          go_wp2_with fail
          go_round
          case rel => exact ⟨2, by first | rfl | go_num, by omega, fun _ => HQ.out, fun _ => HQ2.out⟩
          case measure => simp [intOf]
    | 2, _ =>
      have HQ := Lib.hid (HE0.out (by omega))
      have HQ2 := Lib.hid (HE1.out (by omega))
      go_wp2_with fail
      go_ret
      exact ⟨ret_int (by have := HQ.out; have := HQ2.out; rw [HD.out, if_neg (by omega), if_neg (by omega), if_neg (by omega), if_neg (by omega)]), rfl⟩
    | k + 3, hk => omega

/-- The first k pairs are edges, and rise. -/
def goodK (n : Int) (l : List (Int × Int)) : Nat → Bool
  | 0 => true
  | k + 1 => goodK n l k && (edgeB n (l.getD k (0, 0)) && (decide (k = 0) || ltP (l.getD (k - 1) (0, 0)) (l.getD k (0, 0))))
def checkE (n : Int) (l : List (Int × Int)) : Int := if n < 1 ∨ 16 < n then 1 else if goodK n l l.length = true then 0 else 40

theorem goodK_le {n : Int} {l : List (Int × Int)} {k m : Nat} (h : k < m) (hg : goodK n l (k + 1) = false) : goodK n l m = false := by
  induction m with
  | zero => omega
  | succ m ih =>
    by_cases e : k = m
    · rw [← e]; exact hg
    · unfold goodK; rw [ih (by omega)]; rfl
theorem below_drewN {B : Nat} {a w : World} (h : Below B a w) (n : Nat) : Below B a (w.drewN n) := ⟨h.os, h.tape, h.output, h.size, h.block⟩

set_option maxHeartbeats 1000000 in
theorem Check_any (A : Option Addr) (n : Int) (l : List (Int × Int)) (c : Nat) (w : World) (hr : REdges w w.heap.size A l) (hl : l.length ≤ 1000000) :
    Calls Try.prog 130 #[.int .i64 n, .slice A l.length c] w fun e w' => e = .returned (.int .i64 (checkE n l)) ∧ Below w.heap.size w w' := by
  have HR := Lib.hid hr
  clear hr
  have HD := Lib.hid (show checkE n l = if n < 1 ∨ 16 < n then 1 else if goodK n l l.length = true then 0 else 40 from rfl)
  by_cases h1 : n < 1
  · go_enter Try.func130, Try.ntmps130
    go_wp2_with fail
    go_ret
    exact ⟨ret_int (by rw [HD.out, if_pos (.inl h1)]), Below.refl _ _⟩
  · by_cases h16 : 16 < n
    · have h1' : decide (n < 1) = false := by simpa using h1
      go_enter Try.func130, Try.ntmps130
      go_wp2_with fail
      go_ret
      exact ⟨ret_int (by rw [HD.out, if_pos (.inr h16)]), Below.refl _ _⟩
    · have hn1 : 1 ≤ n := by omega
      have hn16 : n ≤ 16 := by omega
      clear h1 h16
      go_enter Try.func130, Try.ntmps130
      go_wp2_with fail
      go_loopw [15] (fun i wr => ∃ k : Nat, i = .int .i64 k ∧ k ≤ l.length ∧ Hid (goodK n l k = true) ∧ Hid (Below w.heap.size w wr)) (fun i _ => l.length - (intOf i).toNat)
      case atStart => exact ⟨0, rfl, by omega, Lib.hid rfl, Lib.hid (Below.refl _ _)⟩
      case round =>
        obtain ⟨k, rfl, hk, HG1, HB1⟩ := hrel
        have HG := HG1
        have HB := HB1
        clear HG1 HB1
        have hbs := HB.out.size
        by_cases hlt : k < l.length
        · obtain ⟨b, o, x, y, hA, hb, hx, hc1, hc2⟩ := (HR.out.keep HB.out).at_ hlt
          subst hA
          have HX := Lib.hid hx
          clear hx
          have HC1 := Lib.hid hc1
          have HC2 := Lib.hid hc2
          go_upto_region 6 with fail
          obtain ⟨W0, hw0⟩ : ∃ W0, wr.alloc (Obj.cells #[Value.int IntKind.i64 x, Value.int IntKind.i64 y] 41) = W0 := ⟨_, rfl⟩
          have hbox : Box W0 wr.heap.size 41 #[Value.int IntKind.i64 x, Value.int IntKind.i64 y] := by rw [← hw0]; exact Box.new _ _ _
          have hw0s : W0.heap.size = wr.heap.size + 1 := by rw [← hw0]; simp
          have HB0 := Lib.hid (show Below w.heap.size w W0 by rw [← hw0]; exact HB.out.alloc HB.out.size _)
          rw [hw0]
          clear hw0 hc1 hc2
          have x0 := hbox.cell 0
          have x1 := hbox.cell 1
          simp only [List.getElem?_toArray, List.getElem?_cons_zero, List.getElem?_cons_succ] at x0 x1
          have hlt0 : wr.heap.size < W0.heap.size := by omega
          have HX0 := Lib.hid x0
          have HX1 := Lib.hid x1
          have HZ := Lib.hid hw0s
          clear hw0s x0 x1
          go_cut [37] (fun v wx => v = .bool (!(edgeB n (x, y) && (decide (k = 0) || ltP (l.getD (k - 1) (0, 0)) (x, y)))) ∧ Hid (Below w.heap.size w wx))
          case first =>
            cases he : edgeB n (x, y)
            · have HE := Lib.hid he
              clear he
              refine wp_region_held_drew (S := fun w' => w'.cell? ⟨wr.heap.size, 0, none⟩ = some (.int .i64 x) ∧ w'.cell? ⟨wr.heap.size, 1, none⟩ = some (.int .i64 y)) (by kernel_rfl) ⟨HX0.out, HX1.out⟩ (fun hHeld => ?_)
              refine wpAnyH_take (i := 0) (v := ?_) rfl (by kernel_rfl) (by kernel_rfl) (by kernel_rfl) (fun _ _ _ h => h) (Or.inl ⟨by rfl, ?_⟩) (by assumption) ?_
              rotate_left
              · (intro w hSw; (try dsimp only at hSw); go_simp <;> (with_reducible rfl))
              try simp only [Act.put, List.setIfInBounds_toArray, List.set_cons_zero, List.set_cons_succ, List.getElem_toArray, List.getElem_cons_zero]
              refine wpAnyH_take (i := 1) (v := ?_) rfl (by kernel_rfl) (by kernel_rfl) (by kernel_rfl) (fun _ _ _ h => h) (Or.inl ⟨by rfl, ?_⟩) (by assumption) ?_
              rotate_left
              · (intro w hSw; (try dsimp only at hSw); go_simp <;> (with_reducible rfl))
              try simp only [Act.put, List.setIfInBounds_toArray, List.set_cons_zero, List.set_cons_succ, List.getElem_toArray, List.getElem_cons_zero, List.getElem_cons_succ]
              refine wpAnyH_ready (rs := [2]) (by kernel_rfl) (by simp) ?_
              refine AllReadyH.cons rfl (fun K hK => ?_) AllReadyH.nil
              go_simp
              go_at_call 164
              refine (isEdge_of n x y _ HE.out).mono ?_
              rintro e w' ⟨rfl, nn, rfl⟩
              go_wp2_with fail
              refine hK.out _ _ ?_ (fun hHeld => ?_)
              · exact ⟨((Below.refl W0.heap.size W0).alloc (Nat.le_refl _) _ |>.cell (p := ⟨wr.heap.size, 0, none⟩) hlt0).trans HX0.out, ((Below.refl W0.heap.size W0).alloc (Nat.le_refl _) _ |>.cell (p := ⟨wr.heap.size, 1, none⟩) hlt0).trans HX1.out⟩
              clear hK K
              try simp only [Act.put, List.setIfInBounds_toArray, List.set_cons_zero, List.set_cons_succ, List.getElem_toArray, List.getElem_cons_zero, List.getElem_cons_succ]
              refine wpAnyH_take (i := 3) (v := ?_) rfl (by kernel_rfl) (by kernel_rfl) (by kernel_rfl) (fun _ _ _ h => h) (Or.inl ⟨by rfl, ?_⟩) (by assumption) ?_
              rotate_left
              · (intro w hSw; (try dsimp only at hSw); go_simp <;> (with_reducible rfl))
              try simp only [Act.put, List.setIfInBounds_toArray, List.set_cons_zero, List.set_cons_succ, List.getElem_toArray, List.getElem_cons_zero, List.getElem_cons_succ]
              refine wpAnyH_take (i := 4) (v := ?_) rfl (by kernel_rfl) (by kernel_rfl) (by kernel_rfl) (fun _ _ _ h => h) (Or.inl ⟨by rfl, ?_⟩) (by assumption) ?_
              rotate_left
              · (intro w hSw; (try dsimp only at hSw); go_simp <;> (with_reducible rfl))
              try simp only [Act.put, List.setIfInBounds_toArray, List.set_cons_zero, List.set_cons_succ, List.getElem_toArray, List.getElem_cons_zero, List.getElem_cons_succ]
              refine wpAnyH_take (i := 5) (v := undef) rfl (by kernel_rfl) (by kernel_rfl) (by kernel_rfl) (fun _ _ _ h => h) (Or.inr ⟨by rfl, rfl⟩) (by assumption) ?_
              try simp only [Act.put, List.setIfInBounds_toArray, List.set_cons_zero, List.set_cons_succ, List.getElem_toArray, List.getElem_cons_zero, List.getElem_cons_succ]
              refine wpAnyH_take (i := 6) (v := undef) rfl (by kernel_rfl) (by kernel_rfl) (by kernel_rfl) (fun _ _ _ h => h) (Or.inr ⟨by rfl, rfl⟩) (by assumption) ?_
              try simp only [Act.put, List.setIfInBounds_toArray, List.set_cons_zero, List.set_cons_succ, List.getElem_toArray, List.getElem_cons_zero, List.getElem_cons_succ]
              refine wpAnyH_take (i := 7) (v := undef) rfl (by kernel_rfl) (by kernel_rfl) (by kernel_rfl) (fun _ _ _ h => h) (Or.inr ⟨by rfl, rfl⟩) (by assumption) ?_
              try simp only [Act.put, List.setIfInBounds_toArray, List.set_cons_zero, List.set_cons_succ, List.getElem_toArray, List.getElem_cons_zero, List.getElem_cons_succ]
              refine wpAnyH_take (i := 8) (v := undef) rfl (by kernel_rfl) (by kernel_rfl) (by kernel_rfl) (fun _ _ _ h => h) (Or.inr ⟨by rfl, rfl⟩) (by assumption) ?_
              try simp only [Act.put, List.setIfInBounds_toArray, List.set_cons_zero, List.set_cons_succ, List.getElem_toArray, List.getElem_cons_zero, List.getElem_cons_succ]
              refine wpAnyH_take (i := 9) (v := undef) rfl (by kernel_rfl) (by kernel_rfl) (by kernel_rfl) (fun _ _ _ h => h) (Or.inr ⟨by rfl, rfl⟩) (by assumption) ?_
              try simp only [Act.put, List.setIfInBounds_toArray, List.set_cons_zero, List.set_cons_succ, List.getElem_toArray, List.getElem_cons_zero, List.getElem_cons_succ]
              refine wpAnyH_take (i := 10) (v := undef) rfl (by kernel_rfl) (by kernel_rfl) (by kernel_rfl) (fun _ _ _ h => h) (Or.inr ⟨by rfl, rfl⟩) (by assumption) ?_
              try simp only [Act.put, List.setIfInBounds_toArray, List.set_cons_zero, List.set_cons_succ, List.getElem_toArray, List.getElem_cons_zero, List.getElem_cons_succ]
              refine wpAnyH_take (i := 11) (v := undef) rfl (by kernel_rfl) (by kernel_rfl) (by kernel_rfl) (fun _ _ _ h => h) (Or.inr ⟨by rfl, rfl⟩) (by assumption) ?_
              try simp only [Act.put, List.setIfInBounds_toArray, List.set_cons_zero, List.set_cons_succ, List.getElem_toArray, List.getElem_cons_zero, List.getElem_cons_succ]
              refine wpAnyH_take (i := 12) (v := undef) rfl (by kernel_rfl) (by kernel_rfl) (by kernel_rfl) (fun _ _ _ h => h) (Or.inr ⟨by rfl, rfl⟩) (by assumption) ?_
              try simp only [Act.put, List.setIfInBounds_toArray, List.set_cons_zero, List.set_cons_succ, List.getElem_toArray, List.getElem_cons_zero, List.getElem_cons_succ]
              refine wpAnyH_take (i := 13) (v := undef) rfl (by kernel_rfl) (by kernel_rfl) (by kernel_rfl) (fun _ _ _ h => h) (Or.inr ⟨by rfl, rfl⟩) (by assumption) ?_
              try simp only [Act.put, List.setIfInBounds_toArray, List.set_cons_zero, List.set_cons_succ, List.getElem_toArray, List.getElem_cons_zero, List.getElem_cons_succ]
              refine wpAnyH_take (i := 14) (v := undef) rfl (by kernel_rfl) (by kernel_rfl) (by kernel_rfl) (fun _ _ _ h => h) (Or.inr ⟨by rfl, rfl⟩) (by assumption) ?_
              try simp only [Act.put, List.setIfInBounds_toArray, List.set_cons_zero, List.set_cons_succ, List.getElem_toArray, List.getElem_cons_zero, List.getElem_cons_succ]
              refine wpAnyH_take (i := 15) (v := undef) rfl (by kernel_rfl) (by kernel_rfl) (by kernel_rfl) (fun _ _ _ h => h) (Or.inr ⟨by rfl, rfl⟩) (by assumption) ?_
              try simp only [Act.put, List.setIfInBounds_toArray, List.set_cons_zero, List.set_cons_succ, List.getElem_toArray, List.getElem_cons_zero, List.getElem_cons_succ]
              refine wpAnyH_take (i := 16) (v := undef) rfl (by kernel_rfl) (by kernel_rfl) (by kernel_rfl) (fun _ _ _ h => h) (Or.inr ⟨by rfl, rfl⟩) (by assumption) ?_
              try simp only [Act.put, List.setIfInBounds_toArray, List.set_cons_zero, List.set_cons_succ, List.getElem_toArray, List.getElem_cons_zero, List.getElem_cons_succ]
              refine wpAnyH_take (i := 17) (v := ?_) rfl (by kernel_rfl) (by kernel_rfl) (by kernel_rfl) (fun _ _ _ h => h) (Or.inl ⟨by rfl, ?_⟩) (by assumption) ?_
              rotate_left
              · (intro w hSw; (try dsimp only at hSw); go_simp <;> (with_reducible rfl))
              try simp only [Act.put, List.setIfInBounds_toArray, List.set_cons_zero, List.set_cons_succ, List.getElem_toArray, List.getElem_cons_zero, List.getElem_cons_succ]
              refine wpAnyH_done (by kernel_rfl) ?_ _
              go_wp2_with fail
              go_meet
              refine ⟨by rw [HE.out]; rfl, Lib.hid ?_⟩
              exact below_drewN (HB0.out.alloc HB0.out.size _) _
            · have HE := Lib.hid he
              clear he
              cases k with
              | zero =>
                refine wp_region_held_drew (S := fun w' => w'.cell? ⟨wr.heap.size, 0, none⟩ = some (.int .i64 x) ∧ w'.cell? ⟨wr.heap.size, 1, none⟩ = some (.int .i64 y)) (by kernel_rfl) ⟨HX0.out, HX1.out⟩ (fun hHeld => ?_)
                refine wpAnyH_take (i := 0) (v := ?_) rfl (by kernel_rfl) (by kernel_rfl) (by kernel_rfl) (fun _ _ _ h => h) (Or.inl ⟨by rfl, ?_⟩) (by assumption) ?_
                rotate_left
                · (intro w hSw; (try dsimp only at hSw); go_simp <;> (with_reducible rfl))
                try simp only [Act.put, List.setIfInBounds_toArray, List.set_cons_zero, List.set_cons_succ, List.getElem_toArray, List.getElem_cons_zero]
                refine wpAnyH_take (i := 1) (v := ?_) rfl (by kernel_rfl) (by kernel_rfl) (by kernel_rfl) (fun _ _ _ h => h) (Or.inl ⟨by rfl, ?_⟩) (by assumption) ?_
                rotate_left
                · (intro w hSw; (try dsimp only at hSw); go_simp <;> (with_reducible rfl))
                try simp only [Act.put, List.setIfInBounds_toArray, List.set_cons_zero, List.set_cons_succ, List.getElem_toArray, List.getElem_cons_zero, List.getElem_cons_succ]
                refine wpAnyH_ready (rs := [2]) (by kernel_rfl) (by simp) ?_
                refine AllReadyH.cons rfl (fun K hK => ?_) AllReadyH.nil
                go_simp
                go_at_call 164
                refine (isEdge_of n x y _ HE.out).mono ?_
                rintro e w' ⟨rfl, nn, rfl⟩
                go_wp2_with fail
                refine hK.out _ _ ?_ (fun hHeld => ?_)
                · exact ⟨((Below.refl W0.heap.size W0).alloc (Nat.le_refl _) _ |>.cell (p := ⟨wr.heap.size, 0, none⟩) hlt0).trans HX0.out, ((Below.refl W0.heap.size W0).alloc (Nat.le_refl _) _ |>.cell (p := ⟨wr.heap.size, 1, none⟩) hlt0).trans HX1.out⟩
                clear hK K
                try simp only [Act.put, List.setIfInBounds_toArray, List.set_cons_zero, List.set_cons_succ, List.getElem_toArray, List.getElem_cons_zero, List.getElem_cons_succ]
                refine wpAnyH_take (i := 3) (v := ?_) rfl (by kernel_rfl) (by kernel_rfl) (by kernel_rfl) (fun _ _ _ h => h) (Or.inl ⟨by rfl, ?_⟩) (by assumption) ?_
                rotate_left
                · (intro w hSw; (try dsimp only at hSw); go_simp <;> (with_reducible rfl))
                try simp only [Act.put, List.setIfInBounds_toArray, List.set_cons_zero, List.set_cons_succ, List.getElem_toArray, List.getElem_cons_zero, List.getElem_cons_succ]
                refine wpAnyH_take (i := 4) (v := ?_) rfl (by kernel_rfl) (by kernel_rfl) (by kernel_rfl) (fun _ _ _ h => h) (Or.inl ⟨by rfl, ?_⟩) (by assumption) ?_
                rotate_left
                · (intro w hSw; (try dsimp only at hSw); go_simp <;> (with_reducible rfl))
                try simp only [Act.put, List.setIfInBounds_toArray, List.set_cons_zero, List.set_cons_succ, List.getElem_toArray, List.getElem_cons_zero, List.getElem_cons_succ]
                refine wpAnyH_take (i := 5) (v := ?_) rfl (by kernel_rfl) (by kernel_rfl) (by kernel_rfl) (fun _ _ _ h => h) (Or.inl ⟨by rfl, ?_⟩) (by assumption) ?_
                rotate_left
                · (intro w hSw; (try dsimp only at hSw); go_simp <;> (with_reducible rfl))
                try simp only [Act.put, List.setIfInBounds_toArray, List.set_cons_zero, List.set_cons_succ, List.getElem_toArray, List.getElem_cons_zero, List.getElem_cons_succ]
                refine wpAnyH_take (i := 6) (v := ?_) rfl (by kernel_rfl) (by kernel_rfl) (by kernel_rfl) (fun _ _ _ h => h) (Or.inl ⟨by rfl, ?_⟩) (by assumption) ?_
                rotate_left
                · (intro w hSw; (try dsimp only at hSw); go_simp <;> (with_reducible rfl))
                try simp only [Act.put, List.setIfInBounds_toArray, List.set_cons_zero, List.set_cons_succ, List.getElem_toArray, List.getElem_cons_zero, List.getElem_cons_succ]
                refine wpAnyH_take (i := 7) (v := ?_) rfl (by kernel_rfl) (by kernel_rfl) (by kernel_rfl) (fun _ _ _ h => h) (Or.inl ⟨by rfl, ?_⟩) (by assumption) ?_
                rotate_left
                · (intro w hSw; (try dsimp only at hSw); go_simp <;> (with_reducible rfl))
                try simp only [Act.put, List.setIfInBounds_toArray, List.set_cons_zero, List.set_cons_succ, List.getElem_toArray, List.getElem_cons_zero, List.getElem_cons_succ]
                refine wpAnyH_take (i := 8) (v := undef) rfl (by kernel_rfl) (by kernel_rfl) (by kernel_rfl) (fun _ _ _ h => h) (Or.inr ⟨by rfl, rfl⟩) (by assumption) ?_
                try simp only [Act.put, List.setIfInBounds_toArray, List.set_cons_zero, List.set_cons_succ, List.getElem_toArray, List.getElem_cons_zero, List.getElem_cons_succ]
                refine wpAnyH_take (i := 9) (v := undef) rfl (by kernel_rfl) (by kernel_rfl) (by kernel_rfl) (fun _ _ _ h => h) (Or.inr ⟨by rfl, rfl⟩) (by assumption) ?_
                try simp only [Act.put, List.setIfInBounds_toArray, List.set_cons_zero, List.set_cons_succ, List.getElem_toArray, List.getElem_cons_zero, List.getElem_cons_succ]
                refine wpAnyH_take (i := 10) (v := undef) rfl (by kernel_rfl) (by kernel_rfl) (by kernel_rfl) (fun _ _ _ h => h) (Or.inr ⟨by rfl, rfl⟩) (by assumption) ?_
                try simp only [Act.put, List.setIfInBounds_toArray, List.set_cons_zero, List.set_cons_succ, List.getElem_toArray, List.getElem_cons_zero, List.getElem_cons_succ]
                refine wpAnyH_take (i := 11) (v := undef) rfl (by kernel_rfl) (by kernel_rfl) (by kernel_rfl) (fun _ _ _ h => h) (Or.inr ⟨by rfl, rfl⟩) (by assumption) ?_
                try simp only [Act.put, List.setIfInBounds_toArray, List.set_cons_zero, List.set_cons_succ, List.getElem_toArray, List.getElem_cons_zero, List.getElem_cons_succ]
                refine wpAnyH_take (i := 12) (v := undef) rfl (by kernel_rfl) (by kernel_rfl) (by kernel_rfl) (fun _ _ _ h => h) (Or.inr ⟨by rfl, rfl⟩) (by assumption) ?_
                try simp only [Act.put, List.setIfInBounds_toArray, List.set_cons_zero, List.set_cons_succ, List.getElem_toArray, List.getElem_cons_zero, List.getElem_cons_succ]
                refine wpAnyH_take (i := 13) (v := undef) rfl (by kernel_rfl) (by kernel_rfl) (by kernel_rfl) (fun _ _ _ h => h) (Or.inr ⟨by rfl, rfl⟩) (by assumption) ?_
                try simp only [Act.put, List.setIfInBounds_toArray, List.set_cons_zero, List.set_cons_succ, List.getElem_toArray, List.getElem_cons_zero, List.getElem_cons_succ]
                refine wpAnyH_take (i := 14) (v := undef) rfl (by kernel_rfl) (by kernel_rfl) (by kernel_rfl) (fun _ _ _ h => h) (Or.inr ⟨by rfl, rfl⟩) (by assumption) ?_
                try simp only [Act.put, List.setIfInBounds_toArray, List.set_cons_zero, List.set_cons_succ, List.getElem_toArray, List.getElem_cons_zero, List.getElem_cons_succ]
                refine wpAnyH_take (i := 15) (v := undef) rfl (by kernel_rfl) (by kernel_rfl) (by kernel_rfl) (fun _ _ _ h => h) (Or.inr ⟨by rfl, rfl⟩) (by assumption) ?_
                try simp only [Act.put, List.setIfInBounds_toArray, List.set_cons_zero, List.set_cons_succ, List.getElem_toArray, List.getElem_cons_zero, List.getElem_cons_succ]
                refine wpAnyH_take (i := 16) (v := ?_) rfl (by kernel_rfl) (by kernel_rfl) (by kernel_rfl) (fun _ _ _ h => h) (Or.inl ⟨by rfl, ?_⟩) (by assumption) ?_
                rotate_left
                · (intro w hSw; (try dsimp only at hSw); go_simp <;> (with_reducible rfl))
                try simp only [Act.put, List.setIfInBounds_toArray, List.set_cons_zero, List.set_cons_succ, List.getElem_toArray, List.getElem_cons_zero, List.getElem_cons_succ]
                refine wpAnyH_take (i := 17) (v := ?_) rfl (by kernel_rfl) (by kernel_rfl) (by kernel_rfl) (fun _ _ _ h => h) (Or.inl ⟨by rfl, ?_⟩) (by assumption) ?_
                rotate_left
                · (intro w hSw; (try dsimp only at hSw); go_simp <;> (with_reducible rfl))
                try simp only [Act.put, List.setIfInBounds_toArray, List.set_cons_zero, List.set_cons_succ, List.getElem_toArray, List.getElem_cons_zero, List.getElem_cons_succ]
                refine wpAnyH_done (by kernel_rfl) ?_ _
                go_wp2_with fail
                go_meet
                refine ⟨by rw [HE.out]; rfl, Lib.hid ?_⟩
                exact below_drewN (HB0.out.alloc HB0.out.size _) _
              | succ j =>
                have hz : w.heap.size < W0.heap.size := by have := HB.out.size; omega
                have hbl0 : b < W0.heap.size := by omega
                obtain ⟨b', o', px, py, hA, _, hpx, hp0, hp1⟩ := (HR.out.keep HB0.out).at_ (k := j) (by omega)
                cases hA
                have HP0 := Lib.hid hp0
                have HP1 := Lib.hid hp1
                have HPX := Lib.hid hpx
                clear hp0 hp1 hpx
                have hj1 : ((j + 1 : Nat) : Int) - 1 = (j : Int) := by omega
                have hj2 : IntKind.i64.wrap (j : Int) = (j : Int) := IntWalk.i64_in _ (by omega)
                have hj0 : (0 : Int) ≤ (j : Int) := by omega
                have hj3 : (0 : Int) < ((j + 1 : Nat) : Int) := by omega
                have hj4 : (j : Int) < (l.length : Int) := by omega
                refine wp_region_held_drew (S := fun w' => w'.cell? ⟨wr.heap.size, 0, none⟩ = some (.int .i64 x) ∧ w'.cell? ⟨wr.heap.size, 1, none⟩ = some (.int .i64 y) ∧ w'.cell? ⟨b, o + j * 2, none⟩ = some (.int .i64 px) ∧ w'.cell? ⟨b, o + j * 2 + 1, none⟩ = some (.int .i64 py)) (by kernel_rfl) ⟨HX0.out, HX1.out, HP0.out, HP1.out⟩ (fun hHeld => ?_)
                refine wpAnyH_take (i := 0) (v := ?_) rfl (by kernel_rfl) (by kernel_rfl) (by kernel_rfl) (fun _ _ _ h => h) (Or.inl ⟨by rfl, ?_⟩) (by assumption) ?_
                rotate_left
                · (intro w hSw; (try dsimp only at hSw); go_simp <;> (with_reducible rfl))
                try simp only [Act.put, List.setIfInBounds_toArray, List.set_cons_zero, List.set_cons_succ, List.getElem_toArray, List.getElem_cons_zero]
                refine wpAnyH_take (i := 1) (v := ?_) rfl (by kernel_rfl) (by kernel_rfl) (by kernel_rfl) (fun _ _ _ h => h) (Or.inl ⟨by rfl, ?_⟩) (by assumption) ?_
                rotate_left
                · (intro w hSw; (try dsimp only at hSw); go_simp <;> (with_reducible rfl))
                try simp only [Act.put, List.setIfInBounds_toArray, List.set_cons_zero, List.set_cons_succ, List.getElem_toArray, List.getElem_cons_zero, List.getElem_cons_succ]
                refine wpAnyH_ready (rs := [2]) (by kernel_rfl) (by simp) ?_
                refine AllReadyH.cons rfl (fun K hK => ?_) AllReadyH.nil
                go_simp
                go_at_call 164
                refine (isEdge_of n x y _ HE.out).mono ?_
                rintro e w' ⟨rfl, nn, rfl⟩
                go_wp2_with fail
                refine hK.out _ _ ?_ (fun hHeld => ?_)
                · exact ⟨((Below.refl W0.heap.size W0).alloc (Nat.le_refl _) _ |>.cell (p := ⟨wr.heap.size, 0, none⟩) hlt0).trans HX0.out, ((Below.refl W0.heap.size W0).alloc (Nat.le_refl _) _ |>.cell (p := ⟨wr.heap.size, 1, none⟩) hlt0).trans HX1.out, ((Below.refl W0.heap.size W0).alloc (Nat.le_refl _) _ |>.cell (p := ⟨b, o + j * 2, none⟩) hbl0).trans HP0.out, ((Below.refl W0.heap.size W0).alloc (Nat.le_refl _) _ |>.cell (p := ⟨b, o + j * 2 + 1, none⟩) hbl0).trans HP1.out⟩
                clear hK K
                try simp only [Act.put, List.setIfInBounds_toArray, List.set_cons_zero, List.set_cons_succ, List.getElem_toArray, List.getElem_cons_zero, List.getElem_cons_succ]
                refine wpAnyH_take (i := 3) (v := ?_) rfl (by kernel_rfl) (by kernel_rfl) (by kernel_rfl) (fun _ _ _ h => h) (Or.inl ⟨by rfl, ?_⟩) (by assumption) ?_
                rotate_left
                · (intro w hSw; (try dsimp only at hSw); go_simp <;> (with_reducible rfl))
                try simp only [Act.put, List.setIfInBounds_toArray, List.set_cons_zero, List.set_cons_succ, List.getElem_toArray, List.getElem_cons_zero, List.getElem_cons_succ]
                refine wpAnyH_take (i := 4) (v := ?_) rfl (by kernel_rfl) (by kernel_rfl) (by kernel_rfl) (fun _ _ _ h => h) (Or.inl ⟨by rfl, ?_⟩) (by assumption) ?_
                rotate_left
                · (intro w hSw; (try dsimp only at hSw); go_simp <;> (with_reducible rfl))
                try simp only [Act.put, List.setIfInBounds_toArray, List.set_cons_zero, List.set_cons_succ, List.getElem_toArray, List.getElem_cons_zero, List.getElem_cons_succ]
                refine wpAnyH_take (i := 5) (v := ?_) rfl (by kernel_rfl) (by kernel_rfl) (by kernel_rfl) (fun _ _ _ h => h) (Or.inl ⟨by rfl, ?_⟩) (by assumption) ?_
                rotate_left
                · (intro w hSw; (try dsimp only at hSw); go_simp <;> (with_reducible rfl))
                try simp only [Act.put, List.setIfInBounds_toArray, List.set_cons_zero, List.set_cons_succ, List.getElem_toArray, List.getElem_cons_zero, List.getElem_cons_succ]
                refine wpAnyH_take (i := 6) (v := ?_) rfl (by kernel_rfl) (by kernel_rfl) (by kernel_rfl) (fun _ _ _ h => h) (Or.inl ⟨by rfl, ?_⟩) (by assumption) ?_
                rotate_left
                · (intro w hSw; (try dsimp only at hSw); go_simp <;> (with_reducible rfl))
                try simp only [Act.put, List.setIfInBounds_toArray, List.set_cons_zero, List.set_cons_succ, List.getElem_toArray, List.getElem_cons_zero, List.getElem_cons_succ]
                refine wpAnyH_take (i := 7) (v := ?_) rfl (by kernel_rfl) (by kernel_rfl) (by kernel_rfl) (fun _ _ _ h => h) (Or.inl ⟨by rfl, ?_⟩) (by assumption) ?_
                rotate_left
                · (intro w hSw; (try dsimp only at hSw); go_simp <;> (with_reducible rfl))
                try simp only [Act.put, List.setIfInBounds_toArray, List.set_cons_zero, List.set_cons_succ, List.getElem_toArray, List.getElem_cons_zero, List.getElem_cons_succ]
                refine wpAnyH_take (i := 8) (v := ?_) rfl (by kernel_rfl) (by kernel_rfl) (by kernel_rfl) (fun _ _ _ h => h) (Or.inl ⟨by rfl, ?_⟩) (by assumption) ?_
                rotate_left
                · (intro w hSw; (try dsimp only at hSw); go_simp <;> (with_reducible rfl))
                try simp only [Act.put, List.setIfInBounds_toArray, List.set_cons_zero, List.set_cons_succ, List.getElem_toArray, List.getElem_cons_zero, List.getElem_cons_succ]
                refine wpAnyH_take (i := 9) (v := ?_) rfl (by kernel_rfl) (by kernel_rfl) (by kernel_rfl) (fun _ _ _ h => h) (Or.inl ⟨by rfl, ?_⟩) (by assumption) ?_
                rotate_left
                · (intro w hSw; (try dsimp only at hSw); go_simp <;> (with_reducible rfl))
                try simp only [Act.put, List.setIfInBounds_toArray, List.set_cons_zero, List.set_cons_succ, List.getElem_toArray, List.getElem_cons_zero, List.getElem_cons_succ]
                refine wpAnyH_take (i := 10) (v := ?_) rfl (by kernel_rfl) (by kernel_rfl) (by kernel_rfl) (fun _ _ _ h => h) (Or.inl ⟨by rfl, ?_⟩) (by assumption) ?_
                rotate_left
                · (intro w hSw; (try dsimp only at hSw); go_simp <;> (with_reducible rfl))
                try simp only [Act.put, List.setIfInBounds_toArray, List.set_cons_zero, List.set_cons_succ, List.getElem_toArray, List.getElem_cons_zero, List.getElem_cons_succ]
                refine wpAnyH_take (i := 11) (v := ?_) rfl (by kernel_rfl) (by kernel_rfl) (by kernel_rfl) (fun _ _ _ h => h) (Or.inl ⟨by rfl, ?_⟩) (by assumption) ?_
                rotate_left
                · (intro w hSw; (try dsimp only at hSw); go_simp <;> (with_reducible rfl))
                try simp only [Act.put, List.setIfInBounds_toArray, List.set_cons_zero, List.set_cons_succ, List.getElem_toArray, List.getElem_cons_zero, List.getElem_cons_succ]
                refine wpAnyH_take (i := 12) (v := ?_) rfl (by kernel_rfl) (by kernel_rfl) (by kernel_rfl) (fun _ _ _ h => h) (Or.inl ⟨by rfl, ?_⟩) (by assumption) ?_
                rotate_left
                · (intro w hSw; (try dsimp only at hSw); go_simp <;> (with_reducible rfl))
                try simp only [Act.put, List.setIfInBounds_toArray, List.set_cons_zero, List.set_cons_succ, List.getElem_toArray, List.getElem_cons_zero, List.getElem_cons_succ]
                refine wpAnyH_take (i := 13) (v := ?_) rfl (by kernel_rfl) (by kernel_rfl) (by kernel_rfl) (fun _ _ _ h => h) (Or.inl ⟨by rfl, ?_⟩) (by assumption) ?_
                rotate_left
                · (intro w hSw; (try dsimp only at hSw); go_simp <;> (with_reducible rfl))
                try simp only [Act.put, List.setIfInBounds_toArray, List.set_cons_zero, List.set_cons_succ, List.getElem_toArray, List.getElem_cons_zero, List.getElem_cons_succ]
                refine wpAnyH_ready (rs := [14]) (by kernel_rfl) (by simp) ?_
                refine AllReadyH.cons rfl (fun K hK => ?_) AllReadyH.nil
                go_simp
                go_at_call 104
                refine (Compare_two b (o + j * 2) wr.heap.size 0 2 2 px py x y _ hHeld.2.2.1 hHeld.2.2.2 hHeld.1 hHeld.2.1).mono ?_
                rintro e w' ⟨rfl, rfl⟩
                go_wp2_with fail
                refine hK.out _ _ ?_ (fun hHeld => ?_)
                · exact hHeld
                clear hK K
                try simp only [Act.put, List.setIfInBounds_toArray, List.set_cons_zero, List.set_cons_succ, List.getElem_toArray, List.getElem_cons_zero, List.getElem_cons_succ]
                refine wpAnyH_take (i := 15) (v := ?_) rfl (by kernel_rfl) (by kernel_rfl) (by kernel_rfl) (fun _ _ _ h => h) (Or.inl ⟨by rfl, ?_⟩) (by assumption) ?_
                rotate_left
                · (intro w hSw; (try dsimp only at hSw); go_simp <;> (with_reducible rfl))
                try simp only [Act.put, List.setIfInBounds_toArray, List.set_cons_zero, List.set_cons_succ, List.getElem_toArray, List.getElem_cons_zero, List.getElem_cons_succ]
                refine wpAnyH_take (i := 16) (v := ?_) rfl (by kernel_rfl) (by kernel_rfl) (by kernel_rfl) (fun _ _ _ h => h) (Or.inl ⟨by rfl, ?_⟩) (by assumption) ?_
                rotate_left
                · (intro w hSw; (try dsimp only at hSw); go_simp <;> (with_reducible rfl))
                try simp only [Act.put, List.setIfInBounds_toArray, List.set_cons_zero, List.set_cons_succ, List.getElem_toArray, List.getElem_cons_zero, List.getElem_cons_succ]
                refine wpAnyH_take (i := 17) (v := ?_) rfl (by kernel_rfl) (by kernel_rfl) (by kernel_rfl) (fun _ _ _ h => h) (Or.inl ⟨by rfl, ?_⟩) (by assumption) ?_
                rotate_left
                · (intro w hSw; (try dsimp only at hSw); go_simp <;> (with_reducible rfl))
                try simp only [Act.put, List.setIfInBounds_toArray, List.set_cons_zero, List.set_cons_succ, List.getElem_toArray, List.getElem_cons_zero, List.getElem_cons_succ]
                refine wpAnyH_done (by kernel_rfl) ?_ _
                go_wp2_with fail
                go_meet
                refine ⟨?_, Lib.hid ?_⟩
                · have h1 : l.getD j (0, 0) = (px, py) := by rw [List.getD_eq_getElem?_getD, HPX.out]; rfl
                  rw [show j + 1 - 1 = j from rfl, h1, HE.out, cmpP_lt]
                  simp
                exact below_drewN (HB0.out.alloc HB0.out.size _) _
          case rest =>
            obtain ⟨rfl, HBX⟩ := hcut
            have HXD := Lib.hid (show l.getD k (0, 0) = (x, y) by rw [List.getD_eq_getElem?_getD, HX.out]; rfl)
            cases hv : (edgeB n (x, y) && (decide (k = 0) || ltP (l.getD (k - 1) (0, 0)) (x, y)))
            · have HV := Lib.hid hv
              clear hv
              go_wp2_with fail
              go_ret
              refine ⟨ret_int ?_, HBX.out⟩
              rw [HD.out, if_neg (by omega), if_neg]
              have hg := goodK_le (n := n) (l := l) hlt
              rw [hg]
              · simp
              · show (goodK n l k && (edgeB n (l.getD k (0, 0)) && (decide (k = 0) || ltP (l.getD (k - 1) (0, 0)) (l.getD k (0, 0))))) = false
                rw [HXD.out, HV.out, Bool.and_false]
            · have HV := Lib.hid hv
              clear hv
              go_wp2_with fail
              go_roundw
              case rel =>
                refine ⟨k + 1, by go_num, by omega, Lib.hid ?_, HBX⟩
                show (goodK n l k && (edgeB n (l.getD k (0, 0)) && (decide (k = 0) || ltP (l.getD (k - 1) (0, 0)) (l.getD k (0, 0))))) = true
                rw [HXD.out, HV.out, HG.out]; rfl
              case measure => simp [intOf]; omega
        · obtain rfl : k = l.length := by omega
          go_wp2_with fail
          go_ret
          exact ⟨ret_int (by rw [HD.out, if_neg (by omega), if_pos HG.out]), HB.out⟩

/-- The error of check: of the graph, or of the sets. -/
def inSet (n : Int) (x : Int) : Bool := decide (0 ≤ x) && decide (x < 2 ^ n.toNat)
def checkS (n : Int) (l : List (Int × Int)) (xs : List Int) : Int := if checkE n l = 0 then (if xs.all (inSet n) = true then 0 else 1) else checkE n l
theorem pow_int {m : Nat} (h : m ≤ 16) : (1 : Int) ≤ 2 ^ m ∧ (2 : Int) ^ m ≤ 65536 := by
  have h1 : ((2 ^ m : Nat) : Int) = (2 : Int) ^ m := by simp
  have h2 := pow_split h
  have h3 := Nat.two_pow_pos m
  omega
theorem inSet_no {n x : Int} (hn : n ≤ 16) (h : x < 0 ∨ wrap64 (2 ^ n.toNat) ≤ x) : inSet n x = false := by
  have h1 := pow_int (m := n.toNat) (by omega)
  rw [w64 (by omega)] at h
  unfold inSet
  rw [Bool.and_eq_false_iff, decide_eq_false_iff_not, decide_eq_false_iff_not]
  omega
theorem inSet_yes {n x : Int} (hn : n ≤ 16) (h : 0 ≤ x ∧ x < wrap64 (2 ^ n.toNat)) : inSet n x = true := by
  have h1 := pow_int (m := n.toNat) (by omega)
  rw [w64 (by omega)] at h
  unfold inSet
  rw [Bool.and_eq_true, decide_eq_true_eq, decide_eq_true_eq]
  exact h
theorem all_false {p : Int → Bool} {xs : List Int} {k : Nat} {x : Int} (h : xs[k]? = some x) (hp : p x = false) : ¬ xs.all p = true := by
  rw [List.all_eq_true]
  intro hc
  rw [hc x (List.mem_of_getElem? h)] at hp
  cases hp
theorem checkE_zero {n : Int} {l : List (Int × Int)} (h : checkE n l = 0) : 1 ≤ n ∧ n ≤ 16 ∧ goodK n l l.length = true := by
  unfold checkE at h
  split at h
  · omega
  · split at h
    · exact ⟨by omega, by omega, by assumption⟩
    · omega

set_option maxHeartbeats 1000000 in
theorem check_any (A X : Option Addr) (n : Int) (l : List (Int × Int)) (xs : List Int) (m c cx _B : Nat) (w : World) (hm : m = xs.length) (hr : REdges w w.heap.size A l) (hl : l.length ≤ 1000000) (hx : RInts w w.heap.size X xs) (hxl : xs.length ≤ 1000000) :
    Calls Try.prog 83 #[.int .i64 n, .slice A l.length c, .slice X m cx] w fun e w' => e = .returned (.int .i64 (checkS n l xs)) ∧ Below w.heap.size w w' := by
  subst hm
  have HX := Lib.hid hx
  have HC := Lib.hid (Check_any A n l c w hr hl)
  have HD := Lib.hid (show checkS n l xs = if checkE n l = 0 then (if xs.all (inSet n) = true then 0 else 1) else checkE n l from rfl)
  clear hr hx
  by_cases he : checkE n l = 0
  · obtain ⟨hn1, hn16, _⟩ := checkE_zero he
    have HE := Lib.hid he
    clear he
    go_enter Try.func83, Try.ntmps83
    go_wp2_with fail
    refine HC.out.mono ?_
    rintro e w1 ⟨rfl, hb⟩
    rw [HE.out]
    have HB := Lib.hid hb
    clear hb
    go_wp2_with fail
    go_loop [18] (fun i => ∃ k : Nat, i = .int .i64 k ∧ k ≤ xs.length ∧ Hid ((xs.take k).all (inSet n) = true)) (fun i => xs.length - (intOf i).toNat)
    case atStart => exact ⟨0, rfl, by omega, Lib.hid rfl⟩
    case round =>
      obtain ⟨k, rfl, hk, HK1⟩ := hrel
      have HK := HK1
      clear HK1
      by_cases hlt : k < xs.length
      · obtain ⟨b, o, x, hA, hb, hxk, hcx⟩ := (HX.out.below HB.out).at_ hlt
        subst hA
        have HXK := Lib.hid hxk
        clear hxk
        have HT := Lib.hid (show (xs.take (k + 1)).all (inSet n) = ((xs.take k).all (inSet n) && inSet n x) by
          have h2 := List.getElem?_eq_some_iff.1 HXK.out
          rw [List.take_succ_eq_append_getElem h2.1, h2.2, List.all_append]; simp)
        go_wp2_with fail
        · have hq : x < 0 ∨ wrap64 (2 ^ n.toNat) ≤ x := by assumption
          have HQ := Lib.hid hq
          clear hq
          go_ret
          exact ⟨ret_int (by rw [HD.out, if_pos HE.out, if_neg (all_false HXK.out (inSet_no hn16 HQ.out))]), HB.out⟩
        · have hq : 0 ≤ x ∧ x < wrap64 (2 ^ n.toNat) := by assumption
          have HQ := Lib.hid hq
          clear hq
          go_round
          case rel => exact ⟨k + 1, by go_num, by omega, Lib.hid (by rw [HT.out, HK.out, inSet_yes hn16 HQ.out]; rfl)⟩
          case measure => simp [intOf]; omega
        · have hq : x < 0 := by assumption
          have HQ := Lib.hid hq
          clear hq
          go_ret
          exact ⟨ret_int (by rw [HD.out, if_pos HE.out, if_neg (all_false HXK.out (inSet_no hn16 (.inl HQ.out)))]), HB.out⟩
      · obtain rfl : k = xs.length := by omega
        go_wp2_with fail
        go_ret
        exact ⟨ret_int (by rw [HD.out, if_pos HE.out, if_pos (by have := HK.out; rwa [List.take_length] at this)]), HB.out⟩
  · have he' : (checkE n l == 0) = false := by simpa using he
    have he2 : (checkE n l != 0) = true := by simpa using he
    have HE := Lib.hid he
    clear he
    go_enter Try.func83, Try.ntmps83
    go_wp2_with fail
    refine HC.out.mono ?_
    rintro e w1 ⟨rfl, hb⟩
    go_wp2_with fail
    go_ret
    exact ⟨ret_int (by rw [HD.out, if_neg HE.out]), hb⟩

end Go.Proofs.Ythbhengcinkepaa.Lig
