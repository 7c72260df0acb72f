/- Comparing two triples, the checks of package peg. -/
import Derived.Test.YthbhengcinkepaaTri
import Derived.Test.YthbhengcinkepaaShelf4
import Derived.Deep.RegionHeld3
import Derived.StillTailTactics
import Derived.IntWalk
namespace Go.Proofs.Ythbhengcinkepaa
open Go.RowKit

/-- Whether a triple is a line of n holes. -/
def lineB (n : Int) (e : Tri) : Bool := decide (0 ≤ e.1) && (decide (e.1 < e.2.2) && (decide (e.2.2 < n) && (decide (0 ≤ e.2.1) && (decide (e.2.1 < n) && (decide (e.2.1 ≠ e.1) && decide (e.2.1 ≠ e.2.2))))))

set_option maxHeartbeats 1000000 in
theorem isLine_any (n a b c : Int) (w : World) :
    Calls Try.prog 103 #[.int .i64 n, .agg #[.int .i64 a, .int .i64 b, .int .i64 c]] w fun e w' => e = .returned (.bool (lineB n (a, b, c))) ∧ ∃ k, w' = (w.alloc (Obj.cells #[.int .i64 a, .int .i64 b, .int .i64 c] 30)).drewN k := by
  have hall : ∀ u v : Bool, (b != a) = u → (b != c) = v → Calls Try.prog 103 #[.int .i64 n, .agg #[.int .i64 a, .int .i64 b, .int .i64 c]] w fun e w' => e = .returned (.bool (decide (0 ≤ a) && (decide (a < c) && (decide (c < n) && (decide (0 ≤ b) && (decide (b < n) && (u && v))))))) ∧ ∃ k, w' = (w.alloc (Obj.cells #[.int .i64 a, .int .i64 b, .int .i64 c] 30)).drewN k := by
    intro u v hu hv
    cases u <;> cases v
    all_goals
      go_enter Try.func103, Try.ntmps103
      go_wp2
      go_quiet (fail)
      go_wp2
      all_goals
        go_ret
        exact ⟨ret_bool (by first | (simp [*]; done) | (simp; omega)), _, rfl⟩
  refine (hall _ _ rfl rfl).mono fun e w' ⟨h1, h2⟩ => ⟨?_, h2⟩
  rw [h1]
  refine ret_bool ?_
  unfold lineB
  have e1 : (b != a) = decide (b ≠ a) := by rw [Bool.eq_iff_iff]; simp
  have e2 : (b != c) = decide (b ≠ c) := by rw [Bool.eq_iff_iff]; simp
  rw [e1, e2]
theorem isLine_of (n a b c : Int) (w : World) {v : Bool} (h : lineB n (a, b, c) = v) :
    Calls Try.prog 103 #[.int .i64 n, .agg #[.int .i64 a, .int .i64 b, .int .i64 c]] w fun e w' => e = .returned (.bool v) ∧ ∃ k, w' = (w.alloc (Obj.cells #[.int .i64 a, .int .i64 b, .int .i64 c] 30)).drewN k := by
  rw [← h]; exact isLine_any n a b c w

def ltT (a b : Tri) : Bool := decide (a.1 < b.1) || (decide (a.1 = b.1) && (decide (a.2.1 < b.2.1) || (decide (a.2.1 = b.2.1) && decide (a.2.2 < b.2.2))))
def cmpT (a b : Tri) : Int := if a.1 < b.1 then -1 else if a.1 > b.1 then 1 else if a.2.1 < b.2.1 then -1 else if a.2.1 > b.2.1 then 1 else if a.2.2 < b.2.2 then -1 else if a.2.2 > b.2.2 then 1 else 0
theorem cmpT_lt (a b : Tri) : decide (0 ≤ cmpT a b) = !ltT a b := by
  unfold cmpT ltT
  rw [Bool.eq_iff_iff]
  simp only [decide_eq_true_eq, Bool.not_eq_true', Bool.or_eq_false_iff, Bool.and_eq_false_iff, decide_eq_false_iff_not]
  repeat' split
  all_goals omega
theorem cmpT_neg (a b : Tri) : decide (cmpT a b < 0) = ltT a b := by
  have h := cmpT_lt a b
  by_cases h1 : cmpT a b < 0
  · have h2 : decide (0 ≤ cmpT a b) = false := decide_eq_false (by omega)
    rw [h2] at h
    rw [decide_eq_true h1]
    cases hh : ltT a b
    · rw [hh] at h; cases h
    · rfl
  · have h2 : decide (0 ≤ cmpT a b) = true := decide_eq_true (by omega)
    rw [h2] at h
    rw [decide_eq_false h1]
    cases hh : ltT a b
    · rfl
    · rw [hh] at h; cases h

set_option maxHeartbeats 1000000 in
theorem Compare_three (b1 o1 b2 o2 c1 c2 : Nat) (a0 a1 a2 d0 d1 d2 : Int) (w : World) (h1 : w.cell? ⟨b1, o1, none⟩ = some (.int .i64 a0)) (h2 : w.cell? ⟨b1, o1 + 1, none⟩ = some (.int .i64 a1)) (h3 : w.cell? ⟨b1, o1 + 2, none⟩ = some (.int .i64 a2)) (h4 : w.cell? ⟨b2, o2, none⟩ = some (.int .i64 d0)) (h5 : w.cell? ⟨b2, o2 + 1, none⟩ = some (.int .i64 d1)) (h6 : w.cell? ⟨b2, o2 + 2, none⟩ = some (.int .i64 d2)) :
    Calls Try.prog 104 #[.slice (some ⟨b1, o1, none⟩) 3 c1, .slice (some ⟨b2, o2, none⟩) 3 c2] w fun e w' => e = .returned (.int .i64 (cmpT (a0, a1, a2) (d0, d1, d2))) ∧ w = w' := by
  have HD := Lib.hid (show cmpT (a0, a1, a2) (d0, d1, d2) = if a0 < d0 then -1 else if a0 > d0 then 1 else if a1 < d1 then -1 else if a1 > d1 then 1 else if a2 < d2 then -1 else if a2 > d2 then 1 else 0 from rfl)
  go_enter Try.func104, Try.ntmps104
  go_wp2_with fail
  go_loop [11] (fun i => ∃ k : Nat, i = .int .i64 k ∧ k ≤ 3 ∧ (1 ≤ k → a0 = d0) ∧ (2 ≤ k → a1 = d1) ∧ (3 ≤ k → a2 = d2)) (fun i => 3 - (intOf i).toNat)
  case atStart => exact ⟨0, rfl, by omega, by omega, by omega, by omega⟩
  case round =>
    obtain ⟨k, rfl, hk, he0, he1, he2⟩ := hrel
    have HE0 := Lib.hid he0
    have HE1 := Lib.hid he1
    have HE2 := Lib.hid he2
    clear he0 he1 he2
    match k, hk with
    | 0, _ =>
      go_wp2_with fail
      refine (Try.cmp_Compare_int a0 d0 w).mono ?_
      rintro e w' ⟨rfl, rfl⟩
      by_cases hlt : a0 < d0
      · have hr : Lib.compareInt a0 d0 = -1 := if_pos hlt
        rw [hr]
        clear hr
        go_wp2_with fail
        go_ret
        exact ⟨ret_int (by rw [HD.out, if_pos hlt]), rfl⟩
      · by_cases hgt : a0 > d0
        · have hr : Lib.compareInt a0 d0 = 1 := by unfold Lib.compareInt; rw [if_neg hlt, if_pos hgt]
          rw [hr]
          clear hr
          go_wp2_with fail
          go_ret
          exact ⟨ret_int (by rw [HD.out, if_neg (by omega), if_pos (by omega)]), rfl⟩
        · have hr : Lib.compareInt a0 d0 = 0 := by unfold Lib.compareInt; rw [if_neg hlt, if_neg hgt]
          rw [hr]
          clear hr
          have hq : a0 = d0 := by omega
          have HQ0 := Lib.hid hq
          clear hq
          go_wp2_with fail
          go_round
          case rel => exact ⟨1, by first | rfl | go_num, by omega, fun _ => HQ0.out, by omega, by omega⟩
          case measure => simp [intOf]
    | 1, _ =>
      have HQ0 := Lib.hid (HE0.out (by omega))
      go_wp2_with fail
      refine (Try.cmp_Compare_int a1 d1 w).mono ?_
      rintro e w' ⟨rfl, rfl⟩
      by_cases hlt : a1 < d1
      · have hr : Lib.compareInt a1 d1 = -1 := if_pos hlt
        rw [hr]
        clear hr
        go_wp2_with fail
        go_ret
        exact ⟨ret_int (by have := HQ0.out; rw [HD.out, if_neg (by omega), if_neg (by omega), if_pos hlt]), rfl⟩
      · by_cases hgt : a1 > d1
        · have hr : Lib.compareInt a1 d1 = 1 := by unfold Lib.compareInt; rw [if_neg hlt, if_pos hgt]
          rw [hr]
          clear hr
          go_wp2_with fail
          go_ret
          exact ⟨ret_int (by have := HQ0.out; rw [HD.out, if_neg (by omega), if_neg (by omega), if_neg (by omega), if_pos (by omega)]), rfl⟩
        · have hr : Lib.compareInt a1 d1 = 0 := by unfold Lib.compareInt; rw [if_neg hlt, if_neg hgt]
          rw [hr]
          clear hr
          have hq : a1 = d1 := by omega
          have HQ1 := Lib.hid hq
          clear hq
          go_wp2_with fail
          go_round
          case rel => exact ⟨2, by first | rfl | go_num, by omega, fun _ => HQ0.out, fun _ => HQ1.out, by omega⟩
          case measure => simp [intOf]
    | 2, _ =>
      have HQ0 := Lib.hid (HE0.out (by omega))
      have HQ1 := Lib.hid (HE1.out (by omega))
      go_wp2_with fail
      refine (Try.cmp_Compare_int a2 d2 w).mono ?_
      rintro e w' ⟨rfl, rfl⟩
      by_cases hlt : a2 < d2
      · have hr : Lib.compareInt a2 d2 = -1 := if_pos hlt
        rw [hr]
        clear hr
        go_wp2_with fail
        go_ret
        exact ⟨ret_int (by have := HQ0.out; have := HQ1.out; rw [HD.out, if_neg (by omega), if_neg (by omega), if_neg (by omega), if_neg (by omega), if_pos hlt]), rfl⟩
      · by_cases hgt : a2 > d2
        · have hr : Lib.compareInt a2 d2 = 1 := by unfold Lib.compareInt; rw [if_neg hlt, if_pos hgt]
          rw [hr]
          clear hr
          go_wp2_with fail
          go_ret
          exact ⟨ret_int (by have := HQ0.out; have := HQ1.out; rw [HD.out, if_neg (by omega), if_neg (by omega), if_neg (by omega), if_neg (by omega), if_neg (by omega), if_pos (by omega)]), rfl⟩
        · have hr : Lib.compareInt a2 d2 = 0 := by unfold Lib.compareInt; rw [if_neg hlt, if_neg hgt]
          rw [hr]
          clear hr
          have hq : a2 = d2 := by omega
          have HQ2 := Lib.hid hq
          clear hq
          go_wp2_with fail
          go_round
          case rel => exact ⟨3, by first | rfl | go_num, by omega, fun _ => HQ0.out, fun _ => HQ1.out, fun _ => HQ2.out⟩
          case measure => simp [intOf]
    | 3, _ =>
      have HQ0 := Lib.hid (HE0.out (by omega))
      have HQ1 := Lib.hid (HE1.out (by omega))
      have HQ2 := Lib.hid (HE2.out (by omega))
      go_wp2_with fail
      go_ret
      exact ⟨ret_int (by have := HQ0.out; have := HQ1.out; have := HQ2.out; rw [HD.out, if_neg (by omega), if_neg (by omega), if_neg (by omega), if_neg (by omega), if_neg (by omega), if_neg (by omega)]), rfl⟩
    | k + 4, hk => omega

/-- The first k triples are lines, and rise. -/
def goodT (n : Int) (l : List Tri) : Nat → Bool
  | 0 => true
  | k + 1 => goodT n l k && (lineB n (l.getD k (0, 0, 0)) && (decide (k = 0) || ltT (l.getD (k - 1) (0, 0, 0)) (l.getD k (0, 0, 0))))
/-- What Check answers. -/
def checkT (n : Int) (l : List Tri) : Int := if n < 1 ∨ 16 < n then 1 else if 40 < l.length then 2 else if goodT n l l.length = true then 0 else 20

theorem goodT_le {n : Int} {l : List Tri} {k m : Nat} (h : k < m) (hg : goodT n l (k + 1) = false) : goodT n l m = false := by
  induction m with
  | zero => omega
  | succ m ih =>
    by_cases e : k = m
    · rw [← e]; exact hg
    · unfold goodT; rw [ih (by omega)]; rfl
theorem belowT_drewN {B : Nat} {a w : World} (h : Below B a w) (n : Nat) : Below B a (w.drewN n) := ⟨h.os, h.tape, h.output, h.size, h.block⟩

set_option maxHeartbeats 2000000 in
theorem Check_any (A : Option Addr) (n : Int) (l : List Tri) (c : Nat) (w : World) (hr : RTri w w.heap.size A l) (hl : l.length ≤ 1000000) :
    Calls Try.prog 62 #[.int .i64 n, .slice A l.length c] w fun e w' => e = .returned (.int .i64 (checkT n l)) ∧ Below w.heap.size w w' := by
  have HR := Lib.hid hr
  clear hr
  have HD := Lib.hid (show checkT n l = if n < 1 ∨ 16 < n then 1 else if 40 < l.length then 2 else if goodT n l l.length = true then 0 else 20 from rfl)
  by_cases h1 : n < 1
  · go_enter Try.func62, Try.ntmps62
    go_wp2_with fail
    go_ret
    exact ⟨ret_int (by rw [HD.out, if_pos (.inl h1)]), Below.refl _ _⟩
  · by_cases h16 : 16 < n
    · have h1' : decide (n < 1) = false := by simpa using h1
      go_enter Try.func62, Try.ntmps62
      go_wp2_with fail
      go_ret
      exact ⟨ret_int (by rw [HD.out, if_pos (.inr h16)]), Below.refl _ _⟩
    · have hn1 : 1 ≤ n := by omega
      have hn16 : n ≤ 16 := by omega
      clear h1 h16
      by_cases h40 : 40 < l.length
      · have h40' : (40 : Int) < (l.length : Int) := by omega
        go_enter Try.func62, Try.ntmps62
        go_wp2_with fail
        go_ret
        exact ⟨ret_int (by rw [HD.out, if_neg (by omega), if_pos h40]), Below.refl _ _⟩
      have h40' : ¬ (40 : Int) < (l.length : Int) := by omega
      go_enter Try.func62, Try.ntmps62
      go_wp2_with fail
      go_loopw [18] (fun i wr => ∃ k : Nat, i = .int .i64 k ∧ k ≤ l.length ∧ Hid (goodT n l k = true) ∧ Hid (Below w.heap.size w wr)) (fun i _ => l.length - (intOf i).toNat)
      case atStart => exact ⟨0, rfl, by omega, Lib.hid rfl, Lib.hid (Below.refl _ _)⟩
      case round =>
        obtain ⟨k, rfl, hk, HG1, HB1⟩ := hrel
        have HG := HG1
        have HB := HB1
        clear HG1 HB1
        have hbs := HB.out.size
        by_cases hlt : k < l.length
        · obtain ⟨b, o, x, y, z, hA, hb, hx, hc1, hc2, hc3⟩ := (HR.out.below HB.out).at_ hlt
          subst hA
          have HX := Lib.hid hx
          clear hx
          have HC1 := Lib.hid hc1
          have HC2 := Lib.hid hc2
          have HC3 := Lib.hid hc3
          go_upto_region 8 with fail
          obtain ⟨W0, hw0⟩ : ∃ W0, wr.alloc (Obj.cells #[Value.int IntKind.i64 x, Value.int IntKind.i64 y, Value.int IntKind.i64 z] 30) = W0 := ⟨_, rfl⟩
          have hbox : Box W0 wr.heap.size 30 #[Value.int IntKind.i64 x, Value.int IntKind.i64 y, Value.int IntKind.i64 z] := by rw [← hw0]; exact Box.new _ _ _
          have hw0s : W0.heap.size = wr.heap.size + 1 := by rw [← hw0]; simp
          have HB0 := Lib.hid (show Below w.heap.size w W0 by rw [← hw0]; exact HB.out.alloc HB.out.size _)
          rw [hw0]
          clear hw0 hc1 hc2 hc3
          have x0 := hbox.cell 0
          have x1 := hbox.cell 1
          have x2 := hbox.cell 2
          simp only [List.getElem?_toArray, List.getElem?_cons_zero, List.getElem?_cons_succ] at x0 x1 x2
          have hlt0 : wr.heap.size < W0.heap.size := by omega
          have HX0 := Lib.hid x0
          have HX1 := Lib.hid x1
          have HX2 := Lib.hid x2
          have HZ := Lib.hid hw0s
          clear hw0s x0 x1 x2
          go_cut [40] (fun v wx => v = .bool (!(lineB n (x, y, z) && (decide (k = 0) || ltT (l.getD (k - 1) (0, 0, 0)) (x, y, z)))) ∧ Hid (Below w.heap.size w wx))
          case first =>
            cases he : lineB n (x, y, z)
            · have HE := Lib.hid he
              clear he
              refine wp_region_held_drew (S := fun w' => w'.cell? ⟨wr.heap.size, 0, none⟩ = some (.int .i64 x) ∧ w'.cell? ⟨wr.heap.size, 1, none⟩ = some (.int .i64 y) ∧ w'.cell? ⟨wr.heap.size, 2, none⟩ = some (.int .i64 z)) (by kernel_rfl) ⟨HX0.out, HX1.out, HX2.out⟩ (fun hHeld => ?_)
              refine wpAnyH_take (i := 0) (v := ?_) rfl (by kernel_rfl) (by kernel_rfl) (by kernel_rfl) (fun _ _ _ h => h) (Or.inl ⟨by rfl, ?_⟩) (by assumption) ?_
              rotate_left
              · (intro w hSw; (try dsimp only at hSw); go_simp <;> (with_reducible rfl))
              try simp only [Act.put, List.setIfInBounds_toArray, List.set_cons_zero, List.set_cons_succ, List.getElem_toArray, List.getElem_cons_zero]
              refine wpAnyH_take (i := 1) (v := ?_) rfl (by kernel_rfl) (by kernel_rfl) (by kernel_rfl) (fun _ _ _ h => h) (Or.inl ⟨by rfl, ?_⟩) (by assumption) ?_
              rotate_left
              · (intro w hSw; (try dsimp only at hSw); go_simp <;> (with_reducible rfl))
              try simp only [Act.put, List.setIfInBounds_toArray, List.set_cons_zero, List.set_cons_succ, List.getElem_toArray, List.getElem_cons_zero, List.getElem_cons_succ]
              refine wpAnyH_ready (rs := [2]) (by kernel_rfl) (by simp) ?_
              refine AllReadyH.cons rfl (fun K hK => ?_) AllReadyH.nil
              go_simp
              go_at_call 103
              refine (isLine_of n x y z _ HE.out).mono ?_
              rintro e w' ⟨rfl, nn, rfl⟩
              go_wp2_with fail
              refine hK.out _ _ ?_ (fun hHeld => ?_)
              · exact ⟨((Below.refl W0.heap.size W0).alloc (Nat.le_refl _) _ |>.cell (p := ⟨wr.heap.size, 0, none⟩) hlt0).trans HX0.out, ((Below.refl W0.heap.size W0).alloc (Nat.le_refl _) _ |>.cell (p := ⟨wr.heap.size, 1, none⟩) hlt0).trans HX1.out, ((Below.refl W0.heap.size W0).alloc (Nat.le_refl _) _ |>.cell (p := ⟨wr.heap.size, 2, none⟩) hlt0).trans HX2.out⟩
              clear hK K
              try simp only [Act.put, List.setIfInBounds_toArray, List.set_cons_zero, List.set_cons_succ, List.getElem_toArray, List.getElem_cons_zero, List.getElem_cons_succ]
              refine wpAnyH_take (i := 3) (v := ?_) rfl (by kernel_rfl) (by kernel_rfl) (by kernel_rfl) (fun _ _ _ h => h) (Or.inl ⟨by rfl, ?_⟩) (by assumption) ?_
              rotate_left
              · (intro w hSw; (try dsimp only at hSw); go_simp <;> (with_reducible rfl))
              try simp only [Act.put, List.setIfInBounds_toArray, List.set_cons_zero, List.set_cons_succ, List.getElem_toArray, List.getElem_cons_zero, List.getElem_cons_succ]
              refine wpAnyH_take (i := 4) (v := ?_) rfl (by kernel_rfl) (by kernel_rfl) (by kernel_rfl) (fun _ _ _ h => h) (Or.inl ⟨by rfl, ?_⟩) (by assumption) ?_
              rotate_left
              · (intro w hSw; (try dsimp only at hSw); go_simp <;> (with_reducible rfl))
              try simp only [Act.put, List.setIfInBounds_toArray, List.set_cons_zero, List.set_cons_succ, List.getElem_toArray, List.getElem_cons_zero, List.getElem_cons_succ]
              refine wpAnyH_take (i := 5) (v := undef) rfl (by kernel_rfl) (by kernel_rfl) (by kernel_rfl) (fun _ _ _ h => h) (Or.inr ⟨by rfl, rfl⟩) (by assumption) ?_
              try simp only [Act.put, List.setIfInBounds_toArray, List.set_cons_zero, List.set_cons_succ, List.getElem_toArray, List.getElem_cons_zero, List.getElem_cons_succ]
              refine wpAnyH_take (i := 6) (v := undef) rfl (by kernel_rfl) (by kernel_rfl) (by kernel_rfl) (fun _ _ _ h => h) (Or.inr ⟨by rfl, rfl⟩) (by assumption) ?_
              try simp only [Act.put, List.setIfInBounds_toArray, List.set_cons_zero, List.set_cons_succ, List.getElem_toArray, List.getElem_cons_zero, List.getElem_cons_succ]
              refine wpAnyH_take (i := 7) (v := undef) rfl (by kernel_rfl) (by kernel_rfl) (by kernel_rfl) (fun _ _ _ h => h) (Or.inr ⟨by rfl, rfl⟩) (by assumption) ?_
              try simp only [Act.put, List.setIfInBounds_toArray, List.set_cons_zero, List.set_cons_succ, List.getElem_toArray, List.getElem_cons_zero, List.getElem_cons_succ]
              refine wpAnyH_take (i := 8) (v := undef) rfl (by kernel_rfl) (by kernel_rfl) (by kernel_rfl) (fun _ _ _ h => h) (Or.inr ⟨by rfl, rfl⟩) (by assumption) ?_
              try simp only [Act.put, List.setIfInBounds_toArray, List.set_cons_zero, List.set_cons_succ, List.getElem_toArray, List.getElem_cons_zero, List.getElem_cons_succ]
              refine wpAnyH_take (i := 9) (v := undef) rfl (by kernel_rfl) (by kernel_rfl) (by kernel_rfl) (fun _ _ _ h => h) (Or.inr ⟨by rfl, rfl⟩) (by assumption) ?_
              try simp only [Act.put, List.setIfInBounds_toArray, List.set_cons_zero, List.set_cons_succ, List.getElem_toArray, List.getElem_cons_zero, List.getElem_cons_succ]
              refine wpAnyH_take (i := 10) (v := undef) rfl (by kernel_rfl) (by kernel_rfl) (by kernel_rfl) (fun _ _ _ h => h) (Or.inr ⟨by rfl, rfl⟩) (by assumption) ?_
              try simp only [Act.put, List.setIfInBounds_toArray, List.set_cons_zero, List.set_cons_succ, List.getElem_toArray, List.getElem_cons_zero, List.getElem_cons_succ]
              refine wpAnyH_take (i := 11) (v := undef) rfl (by kernel_rfl) (by kernel_rfl) (by kernel_rfl) (fun _ _ _ h => h) (Or.inr ⟨by rfl, rfl⟩) (by assumption) ?_
              try simp only [Act.put, List.setIfInBounds_toArray, List.set_cons_zero, List.set_cons_succ, List.getElem_toArray, List.getElem_cons_zero, List.getElem_cons_succ]
              refine wpAnyH_take (i := 12) (v := undef) rfl (by kernel_rfl) (by kernel_rfl) (by kernel_rfl) (fun _ _ _ h => h) (Or.inr ⟨by rfl, rfl⟩) (by assumption) ?_
              try simp only [Act.put, List.setIfInBounds_toArray, List.set_cons_zero, List.set_cons_succ, List.getElem_toArray, List.getElem_cons_zero, List.getElem_cons_succ]
              refine wpAnyH_take (i := 13) (v := undef) rfl (by kernel_rfl) (by kernel_rfl) (by kernel_rfl) (fun _ _ _ h => h) (Or.inr ⟨by rfl, rfl⟩) (by assumption) ?_
              try simp only [Act.put, List.setIfInBounds_toArray, List.set_cons_zero, List.set_cons_succ, List.getElem_toArray, List.getElem_cons_zero, List.getElem_cons_succ]
              refine wpAnyH_take (i := 14) (v := undef) rfl (by kernel_rfl) (by kernel_rfl) (by kernel_rfl) (fun _ _ _ h => h) (Or.inr ⟨by rfl, rfl⟩) (by assumption) ?_
              try simp only [Act.put, List.setIfInBounds_toArray, List.set_cons_zero, List.set_cons_succ, List.getElem_toArray, List.getElem_cons_zero, List.getElem_cons_succ]
              refine wpAnyH_take (i := 15) (v := undef) rfl (by kernel_rfl) (by kernel_rfl) (by kernel_rfl) (fun _ _ _ h => h) (Or.inr ⟨by rfl, rfl⟩) (by assumption) ?_
              try simp only [Act.put, List.setIfInBounds_toArray, List.set_cons_zero, List.set_cons_succ, List.getElem_toArray, List.getElem_cons_zero, List.getElem_cons_succ]
              refine wpAnyH_take (i := 16) (v := undef) rfl (by kernel_rfl) (by kernel_rfl) (by kernel_rfl) (fun _ _ _ h => h) (Or.inr ⟨by rfl, rfl⟩) (by assumption) ?_
              try simp only [Act.put, List.setIfInBounds_toArray, List.set_cons_zero, List.set_cons_succ, List.getElem_toArray, List.getElem_cons_zero, List.getElem_cons_succ]
              refine wpAnyH_take (i := 17) (v := ?_) rfl (by kernel_rfl) (by kernel_rfl) (by kernel_rfl) (fun _ _ _ h => h) (Or.inl ⟨by rfl, ?_⟩) (by assumption) ?_
              rotate_left
              · (intro w hSw; (try dsimp only at hSw); go_simp <;> (with_reducible rfl))
              try simp only [Act.put, List.setIfInBounds_toArray, List.set_cons_zero, List.set_cons_succ, List.getElem_toArray, List.getElem_cons_zero, List.getElem_cons_succ]
              refine wpAnyH_done (by kernel_rfl) ?_ _
              go_wp2_with fail
              go_meet
              refine ⟨by rw [HE.out]; rfl, Lib.hid ?_⟩
              exact belowT_drewN (HB0.out.alloc HB0.out.size _) _
            · have HE := Lib.hid he
              clear he
              cases k with
              | zero =>
                refine wp_region_held_drew (S := fun w' => w'.cell? ⟨wr.heap.size, 0, none⟩ = some (.int .i64 x) ∧ w'.cell? ⟨wr.heap.size, 1, none⟩ = some (.int .i64 y) ∧ w'.cell? ⟨wr.heap.size, 2, none⟩ = some (.int .i64 z)) (by kernel_rfl) ⟨HX0.out, HX1.out, HX2.out⟩ (fun hHeld => ?_)
                refine wpAnyH_take (i := 0) (v := ?_) rfl (by kernel_rfl) (by kernel_rfl) (by kernel_rfl) (fun _ _ _ h => h) (Or.inl ⟨by rfl, ?_⟩) (by assumption) ?_
                rotate_left
                · (intro w hSw; (try dsimp only at hSw); go_simp <;> (with_reducible rfl))
                try simp only [Act.put, List.setIfInBounds_toArray, List.set_cons_zero, List.set_cons_succ, List.getElem_toArray, List.getElem_cons_zero]
                refine wpAnyH_take (i := 1) (v := ?_) rfl (by kernel_rfl) (by kernel_rfl) (by kernel_rfl) (fun _ _ _ h => h) (Or.inl ⟨by rfl, ?_⟩) (by assumption) ?_
                rotate_left
                · (intro w hSw; (try dsimp only at hSw); go_simp <;> (with_reducible rfl))
                try simp only [Act.put, List.setIfInBounds_toArray, List.set_cons_zero, List.set_cons_succ, List.getElem_toArray, List.getElem_cons_zero, List.getElem_cons_succ]
                refine wpAnyH_ready (rs := [2]) (by kernel_rfl) (by simp) ?_
                refine AllReadyH.cons rfl (fun K hK => ?_) AllReadyH.nil
                go_simp
                go_at_call 103
                refine (isLine_of n x y z _ HE.out).mono ?_
                rintro e w' ⟨rfl, nn, rfl⟩
                go_wp2_with fail
                refine hK.out _ _ ?_ (fun hHeld => ?_)
                · exact ⟨((Below.refl W0.heap.size W0).alloc (Nat.le_refl _) _ |>.cell (p := ⟨wr.heap.size, 0, none⟩) hlt0).trans HX0.out, ((Below.refl W0.heap.size W0).alloc (Nat.le_refl _) _ |>.cell (p := ⟨wr.heap.size, 1, none⟩) hlt0).trans HX1.out, ((Below.refl W0.heap.size W0).alloc (Nat.le_refl _) _ |>.cell (p := ⟨wr.heap.size, 2, none⟩) hlt0).trans HX2.out⟩
                clear hK K
                try simp only [Act.put, List.setIfInBounds_toArray, List.set_cons_zero, List.set_cons_succ, List.getElem_toArray, List.getElem_cons_zero, List.getElem_cons_succ]
                refine wpAnyH_take (i := 3) (v := ?_) rfl (by kernel_rfl) (by kernel_rfl) (by kernel_rfl) (fun _ _ _ h => h) (Or.inl ⟨by rfl, ?_⟩) (by assumption) ?_
                rotate_left
                · (intro w hSw; (try dsimp only at hSw); go_simp <;> (with_reducible rfl))
                try simp only [Act.put, List.setIfInBounds_toArray, List.set_cons_zero, List.set_cons_succ, List.getElem_toArray, List.getElem_cons_zero, List.getElem_cons_succ]
                refine wpAnyH_take (i := 4) (v := ?_) rfl (by kernel_rfl) (by kernel_rfl) (by kernel_rfl) (fun _ _ _ h => h) (Or.inl ⟨by rfl, ?_⟩) (by assumption) ?_
                rotate_left
                · (intro w hSw; (try dsimp only at hSw); go_simp <;> (with_reducible rfl))
                try simp only [Act.put, List.setIfInBounds_toArray, List.set_cons_zero, List.set_cons_succ, List.getElem_toArray, List.getElem_cons_zero, List.getElem_cons_succ]
                refine wpAnyH_take (i := 5) (v := ?_) rfl (by kernel_rfl) (by kernel_rfl) (by kernel_rfl) (fun _ _ _ h => h) (Or.inl ⟨by rfl, ?_⟩) (by assumption) ?_
                rotate_left
                · (intro w hSw; (try dsimp only at hSw); go_simp <;> (with_reducible rfl))
                try simp only [Act.put, List.setIfInBounds_toArray, List.set_cons_zero, List.set_cons_succ, List.getElem_toArray, List.getElem_cons_zero, List.getElem_cons_succ]
                refine wpAnyH_take (i := 6) (v := ?_) rfl (by kernel_rfl) (by kernel_rfl) (by kernel_rfl) (fun _ _ _ h => h) (Or.inl ⟨by rfl, ?_⟩) (by assumption) ?_
                rotate_left
                · (intro w hSw; (try dsimp only at hSw); go_simp <;> (with_reducible rfl))
                try simp only [Act.put, List.setIfInBounds_toArray, List.set_cons_zero, List.set_cons_succ, List.getElem_toArray, List.getElem_cons_zero, List.getElem_cons_succ]
                refine wpAnyH_take (i := 7) (v := ?_) rfl (by kernel_rfl) (by kernel_rfl) (by kernel_rfl) (fun _ _ _ h => h) (Or.inl ⟨by rfl, ?_⟩) (by assumption) ?_
                rotate_left
                · (intro w hSw; (try dsimp only at hSw); go_simp <;> (with_reducible rfl))
                try simp only [Act.put, List.setIfInBounds_toArray, List.set_cons_zero, List.set_cons_succ, List.getElem_toArray, List.getElem_cons_zero, List.getElem_cons_succ]
                refine wpAnyH_take (i := 8) (v := undef) rfl (by kernel_rfl) (by kernel_rfl) (by kernel_rfl) (fun _ _ _ h => h) (Or.inr ⟨by rfl, rfl⟩) (by assumption) ?_
                try simp only [Act.put, List.setIfInBounds_toArray, List.set_cons_zero, List.set_cons_succ, List.getElem_toArray, List.getElem_cons_zero, List.getElem_cons_succ]
                refine wpAnyH_take (i := 9) (v := undef) rfl (by kernel_rfl) (by kernel_rfl) (by kernel_rfl) (fun _ _ _ h => h) (Or.inr ⟨by rfl, rfl⟩) (by assumption) ?_
                try simp only [Act.put, List.setIfInBounds_toArray, List.set_cons_zero, List.set_cons_succ, List.getElem_toArray, List.getElem_cons_zero, List.getElem_cons_succ]
                refine wpAnyH_take (i := 10) (v := undef) rfl (by kernel_rfl) (by kernel_rfl) (by kernel_rfl) (fun _ _ _ h => h) (Or.inr ⟨by rfl, rfl⟩) (by assumption) ?_
                try simp only [Act.put, List.setIfInBounds_toArray, List.set_cons_zero, List.set_cons_succ, List.getElem_toArray, List.getElem_cons_zero, List.getElem_cons_succ]
                refine wpAnyH_take (i := 11) (v := undef) rfl (by kernel_rfl) (by kernel_rfl) (by kernel_rfl) (fun _ _ _ h => h) (Or.inr ⟨by rfl, rfl⟩) (by assumption) ?_
                try simp only [Act.put, List.setIfInBounds_toArray, List.set_cons_zero, List.set_cons_succ, List.getElem_toArray, List.getElem_cons_zero, List.getElem_cons_succ]
                refine wpAnyH_take (i := 12) (v := undef) rfl (by kernel_rfl) (by kernel_rfl) (by kernel_rfl) (fun _ _ _ h => h) (Or.inr ⟨by rfl, rfl⟩) (by assumption) ?_
                try simp only [Act.put, List.setIfInBounds_toArray, List.set_cons_zero, List.set_cons_succ, List.getElem_toArray, List.getElem_cons_zero, List.getElem_cons_succ]
                refine wpAnyH_take (i := 13) (v := undef) rfl (by kernel_rfl) (by kernel_rfl) (by kernel_rfl) (fun _ _ _ h => h) (Or.inr ⟨by rfl, rfl⟩) (by assumption) ?_
                try simp only [Act.put, List.setIfInBounds_toArray, List.set_cons_zero, List.set_cons_succ, List.getElem_toArray, List.getElem_cons_zero, List.getElem_cons_succ]
                refine wpAnyH_take (i := 14) (v := undef) rfl (by kernel_rfl) (by kernel_rfl) (by kernel_rfl) (fun _ _ _ h => h) (Or.inr ⟨by rfl, rfl⟩) (by assumption) ?_
                try simp only [Act.put, List.setIfInBounds_toArray, List.set_cons_zero, List.set_cons_succ, List.getElem_toArray, List.getElem_cons_zero, List.getElem_cons_succ]
                refine wpAnyH_take (i := 15) (v := undef) rfl (by kernel_rfl) (by kernel_rfl) (by kernel_rfl) (fun _ _ _ h => h) (Or.inr ⟨by rfl, rfl⟩) (by assumption) ?_
                try simp only [Act.put, List.setIfInBounds_toArray, List.set_cons_zero, List.set_cons_succ, List.getElem_toArray, List.getElem_cons_zero, List.getElem_cons_succ]
                refine wpAnyH_take (i := 16) (v := ?_) rfl (by kernel_rfl) (by kernel_rfl) (by kernel_rfl) (fun _ _ _ h => h) (Or.inl ⟨by rfl, ?_⟩) (by assumption) ?_
                rotate_left
                · (intro w hSw; (try dsimp only at hSw); go_simp <;> (with_reducible rfl))
                try simp only [Act.put, List.setIfInBounds_toArray, List.set_cons_zero, List.set_cons_succ, List.getElem_toArray, List.getElem_cons_zero, List.getElem_cons_succ]
                refine wpAnyH_take (i := 17) (v := ?_) rfl (by kernel_rfl) (by kernel_rfl) (by kernel_rfl) (fun _ _ _ h => h) (Or.inl ⟨by rfl, ?_⟩) (by assumption) ?_
                rotate_left
                · (intro w hSw; (try dsimp only at hSw); go_simp <;> (with_reducible rfl))
                try simp only [Act.put, List.setIfInBounds_toArray, List.set_cons_zero, List.set_cons_succ, List.getElem_toArray, List.getElem_cons_zero, List.getElem_cons_succ]
                refine wpAnyH_done (by kernel_rfl) ?_ _
                go_wp2_with fail
                go_meet
                refine ⟨by rw [HE.out]; rfl, Lib.hid ?_⟩
                exact belowT_drewN (HB0.out.alloc HB0.out.size _) _
              | succ j =>
                have hz : w.heap.size < W0.heap.size := by have := HB.out.size; omega
                have hbl0 : b < W0.heap.size := by omega
                obtain ⟨b', o', px, py, pz, hA, _, hpx, hp0, hp1, hp2⟩ := (HR.out.below HB0.out).at_ (k := j) (by omega)
                cases hA
                have HP0 := Lib.hid hp0
                have HP1 := Lib.hid hp1
                have HP2 := Lib.hid hp2
                have HPX := Lib.hid hpx
                clear hp0 hp1 hp2 hpx
                have hj1 : ((j + 1 : Nat) : Int) - 1 = (j : Int) := by omega
                have hj2 : IntKind.i64.wrap (j : Int) = (j : Int) := IntWalk.i64_in _ (by omega)
                have hj0 : (0 : Int) ≤ (j : Int) := by omega
                have hj3 : (0 : Int) < ((j + 1 : Nat) : Int) := by omega
                have hj4 : (j : Int) < (l.length : Int) := by omega
                refine wp_region_held_drew (S := fun w' => w'.cell? ⟨wr.heap.size, 0, none⟩ = some (.int .i64 x) ∧ w'.cell? ⟨wr.heap.size, 1, none⟩ = some (.int .i64 y) ∧ w'.cell? ⟨wr.heap.size, 2, none⟩ = some (.int .i64 z) ∧ w'.cell? ⟨b, o + j * 3, none⟩ = some (.int .i64 px) ∧ w'.cell? ⟨b, o + j * 3 + 1, none⟩ = some (.int .i64 py) ∧ w'.cell? ⟨b, o + j * 3 + 2, none⟩ = some (.int .i64 pz)) (by kernel_rfl) ⟨HX0.out, HX1.out, HX2.out, HP0.out, HP1.out, HP2.out⟩ (fun hHeld => ?_)
                refine wpAnyH_take (i := 0) (v := ?_) rfl (by kernel_rfl) (by kernel_rfl) (by kernel_rfl) (fun _ _ _ h => h) (Or.inl ⟨by rfl, ?_⟩) (by assumption) ?_
                rotate_left
                · (intro w hSw; (try dsimp only at hSw); go_simp <;> (with_reducible rfl))
                try simp only [Act.put, List.setIfInBounds_toArray, List.set_cons_zero, List.set_cons_succ, List.getElem_toArray, List.getElem_cons_zero]
                refine wpAnyH_take (i := 1) (v := ?_) rfl (by kernel_rfl) (by kernel_rfl) (by kernel_rfl) (fun _ _ _ h => h) (Or.inl ⟨by rfl, ?_⟩) (by assumption) ?_
                rotate_left
                · (intro w hSw; (try dsimp only at hSw); go_simp <;> (with_reducible rfl))
                try simp only [Act.put, List.setIfInBounds_toArray, List.set_cons_zero, List.set_cons_succ, List.getElem_toArray, List.getElem_cons_zero, List.getElem_cons_succ]
                refine wpAnyH_ready (rs := [2]) (by kernel_rfl) (by simp) ?_
                refine AllReadyH.cons rfl (fun K hK => ?_) AllReadyH.nil
                go_simp
                go_at_call 103
                refine (isLine_of n x y z _ HE.out).mono ?_
                rintro e w' ⟨rfl, nn, rfl⟩
                go_wp2_with fail
                refine hK.out _ _ ?_ (fun hHeld => ?_)
                · exact ⟨((Below.refl W0.heap.size W0).alloc (Nat.le_refl _) _ |>.cell (p := ⟨wr.heap.size, 0, none⟩) hlt0).trans HX0.out, ((Below.refl W0.heap.size W0).alloc (Nat.le_refl _) _ |>.cell (p := ⟨wr.heap.size, 1, none⟩) hlt0).trans HX1.out, ((Below.refl W0.heap.size W0).alloc (Nat.le_refl _) _ |>.cell (p := ⟨wr.heap.size, 2, none⟩) hlt0).trans HX2.out, ((Below.refl W0.heap.size W0).alloc (Nat.le_refl _) _ |>.cell (p := ⟨b, o + j * 3, none⟩) hbl0).trans HP0.out, ((Below.refl W0.heap.size W0).alloc (Nat.le_refl _) _ |>.cell (p := ⟨b, o + j * 3 + 1, none⟩) hbl0).trans HP1.out, ((Below.refl W0.heap.size W0).alloc (Nat.le_refl _) _ |>.cell (p := ⟨b, o + j * 3 + 2, none⟩) hbl0).trans HP2.out⟩
                clear hK K
                try simp only [Act.put, List.setIfInBounds_toArray, List.set_cons_zero, List.set_cons_succ, List.getElem_toArray, List.getElem_cons_zero, List.getElem_cons_succ]
                refine wpAnyH_take (i := 3) (v := ?_) rfl (by kernel_rfl) (by kernel_rfl) (by kernel_rfl) (fun _ _ _ h => h) (Or.inl ⟨by rfl, ?_⟩) (by assumption) ?_
                rotate_left
                · (intro w hSw; (try dsimp only at hSw); go_simp <;> (with_reducible rfl))
                try simp only [Act.put, List.setIfInBounds_toArray, List.set_cons_zero, List.set_cons_succ, List.getElem_toArray, List.getElem_cons_zero, List.getElem_cons_succ]
                refine wpAnyH_take (i := 4) (v := ?_) rfl (by kernel_rfl) (by kernel_rfl) (by kernel_rfl) (fun _ _ _ h => h) (Or.inl ⟨by rfl, ?_⟩) (by assumption) ?_
                rotate_left
                · (intro w hSw; (try dsimp only at hSw); go_simp <;> (with_reducible rfl))
                try simp only [Act.put, List.setIfInBounds_toArray, List.set_cons_zero, List.set_cons_succ, List.getElem_toArray, List.getElem_cons_zero, List.getElem_cons_succ]
                refine wpAnyH_take (i := 5) (v := ?_) rfl (by kernel_rfl) (by kernel_rfl) (by kernel_rfl) (fun _ _ _ h => h) (Or.inl ⟨by rfl, ?_⟩) (by assumption) ?_
                rotate_left
                · (intro w hSw; (try dsimp only at hSw); go_simp <;> (with_reducible rfl))
                try simp only [Act.put, List.setIfInBounds_toArray, List.set_cons_zero, List.set_cons_succ, List.getElem_toArray, List.getElem_cons_zero, List.getElem_cons_succ]
                refine wpAnyH_take (i := 6) (v := ?_) rfl (by kernel_rfl) (by kernel_rfl) (by kernel_rfl) (fun _ _ _ h => h) (Or.inl ⟨by rfl, ?_⟩) (by assumption) ?_
                rotate_left
                · (intro w hSw; (try dsimp only at hSw); go_simp <;> (with_reducible rfl))
                try simp only [Act.put, List.setIfInBounds_toArray, List.set_cons_zero, List.set_cons_succ, List.getElem_toArray, List.getElem_cons_zero, List.getElem_cons_succ]
                refine wpAnyH_take (i := 7) (v := ?_) rfl (by kernel_rfl) (by kernel_rfl) (by kernel_rfl) (fun _ _ _ h => h) (Or.inl ⟨by rfl, ?_⟩) (by assumption) ?_
                rotate_left
                · (intro w hSw; (try dsimp only at hSw); go_simp <;> (with_reducible rfl))
                try simp only [Act.put, List.setIfInBounds_toArray, List.set_cons_zero, List.set_cons_succ, List.getElem_toArray, List.getElem_cons_zero, List.getElem_cons_succ]
                refine wpAnyH_take (i := 8) (v := ?_) rfl (by kernel_rfl) (by kernel_rfl) (by kernel_rfl) (fun _ _ _ h => h) (Or.inl ⟨by rfl, ?_⟩) (by assumption) ?_
                rotate_left
                · (intro w hSw; (try dsimp only at hSw); go_simp <;> (with_reducible rfl))
                try simp only [Act.put, List.setIfInBounds_toArray, List.set_cons_zero, List.set_cons_succ, List.getElem_toArray, List.getElem_cons_zero, List.getElem_cons_succ]
                refine wpAnyH_take (i := 9) (v := ?_) rfl (by kernel_rfl) (by kernel_rfl) (by kernel_rfl) (fun _ _ _ h => h) (Or.inl ⟨by rfl, ?_⟩) (by assumption) ?_
                rotate_left
                · (intro w hSw; (try dsimp only at hSw); go_simp <;> (with_reducible rfl))
                try simp only [Act.put, List.setIfInBounds_toArray, List.set_cons_zero, List.set_cons_succ, List.getElem_toArray, List.getElem_cons_zero, List.getElem_cons_succ]
                refine wpAnyH_take (i := 10) (v := ?_) rfl (by kernel_rfl) (by kernel_rfl) (by kernel_rfl) (fun _ _ _ h => h) (Or.inl ⟨by rfl, ?_⟩) (by assumption) ?_
                rotate_left
                · (intro w hSw; (try dsimp only at hSw); go_simp <;> (with_reducible rfl))
                try simp only [Act.put, List.setIfInBounds_toArray, List.set_cons_zero, List.set_cons_succ, List.getElem_toArray, List.getElem_cons_zero, List.getElem_cons_succ]
                refine wpAnyH_take (i := 11) (v := ?_) rfl (by kernel_rfl) (by kernel_rfl) (by kernel_rfl) (fun _ _ _ h => h) (Or.inl ⟨by rfl, ?_⟩) (by assumption) ?_
                rotate_left
                · (intro w hSw; (try dsimp only at hSw); go_simp <;> (with_reducible rfl))
                try simp only [Act.put, List.setIfInBounds_toArray, List.set_cons_zero, List.set_cons_succ, List.getElem_toArray, List.getElem_cons_zero, List.getElem_cons_succ]
                refine wpAnyH_take (i := 12) (v := ?_) rfl (by kernel_rfl) (by kernel_rfl) (by kernel_rfl) (fun _ _ _ h => h) (Or.inl ⟨by rfl, ?_⟩) (by assumption) ?_
                rotate_left
                · (intro w hSw; (try dsimp only at hSw); go_simp <;> (with_reducible rfl))
                try simp only [Act.put, List.setIfInBounds_toArray, List.set_cons_zero, List.set_cons_succ, List.getElem_toArray, List.getElem_cons_zero, List.getElem_cons_succ]
                refine wpAnyH_take (i := 13) (v := ?_) rfl (by kernel_rfl) (by kernel_rfl) (by kernel_rfl) (fun _ _ _ h => h) (Or.inl ⟨by rfl, ?_⟩) (by assumption) ?_
                rotate_left
                · (intro w hSw; (try dsimp only at hSw); go_simp <;> (with_reducible rfl))
                try simp only [Act.put, List.setIfInBounds_toArray, List.set_cons_zero, List.set_cons_succ, List.getElem_toArray, List.getElem_cons_zero, List.getElem_cons_succ]
                refine wpAnyH_ready (rs := [14]) (by kernel_rfl) (by simp) ?_
                refine AllReadyH.cons rfl (fun K hK => ?_) AllReadyH.nil
                go_simp
                go_at_call 104
                refine (Compare_three b (o + j * 3) wr.heap.size 0 3 3 px py pz x y z _ hHeld.2.2.2.1 hHeld.2.2.2.2.1 hHeld.2.2.2.2.2 hHeld.1 hHeld.2.1 hHeld.2.2.1).mono ?_
                rintro e w' ⟨rfl, rfl⟩
                go_wp2_with fail
                refine hK.out _ _ ?_ (fun hHeld => ?_)
                · exact hHeld
                clear hK K
                try simp only [Act.put, List.setIfInBounds_toArray, List.set_cons_zero, List.set_cons_succ, List.getElem_toArray, List.getElem_cons_zero, List.getElem_cons_succ]
                refine wpAnyH_take (i := 15) (v := ?_) rfl (by kernel_rfl) (by kernel_rfl) (by kernel_rfl) (fun _ _ _ h => h) (Or.inl ⟨by rfl, ?_⟩) (by assumption) ?_
                rotate_left
                · (intro w hSw; (try dsimp only at hSw); go_simp <;> (with_reducible rfl))
                try simp only [Act.put, List.setIfInBounds_toArray, List.set_cons_zero, List.set_cons_succ, List.getElem_toArray, List.getElem_cons_zero, List.getElem_cons_succ]
                refine wpAnyH_take (i := 16) (v := ?_) rfl (by kernel_rfl) (by kernel_rfl) (by kernel_rfl) (fun _ _ _ h => h) (Or.inl ⟨by rfl, ?_⟩) (by assumption) ?_
                rotate_left
                · (intro w hSw; (try dsimp only at hSw); go_simp <;> (with_reducible rfl))
                try simp only [Act.put, List.setIfInBounds_toArray, List.set_cons_zero, List.set_cons_succ, List.getElem_toArray, List.getElem_cons_zero, List.getElem_cons_succ]
                refine wpAnyH_take (i := 17) (v := ?_) rfl (by kernel_rfl) (by kernel_rfl) (by kernel_rfl) (fun _ _ _ h => h) (Or.inl ⟨by rfl, ?_⟩) (by assumption) ?_
                rotate_left
                · (intro w hSw; (try dsimp only at hSw); go_simp <;> (with_reducible rfl))
                try simp only [Act.put, List.setIfInBounds_toArray, List.set_cons_zero, List.set_cons_succ, List.getElem_toArray, List.getElem_cons_zero, List.getElem_cons_succ]
                refine wpAnyH_done (by kernel_rfl) ?_ _
                go_wp2_with fail
                go_meet
                refine ⟨?_, Lib.hid ?_⟩
                · have h1 : l.getD j (0, 0, 0) = (px, py, pz) := by rw [List.getD_eq_getElem?_getD, HPX.out]; rfl
                  rw [show j + 1 - 1 = j from rfl, h1, HE.out, cmpT_lt]
                  simp
                exact belowT_drewN (HB0.out.alloc HB0.out.size _) _
          case rest =>
            obtain ⟨rfl, HBX⟩ := hcut
            have HXD := Lib.hid (show l.getD k (0, 0, 0) = (x, y, z) by rw [List.getD_eq_getElem?_getD, HX.out]; rfl)
            cases hv : (lineB n (x, y, z) && (decide (k = 0) || ltT (l.getD (k - 1) (0, 0, 0)) (x, y, z)))
            · have HV := Lib.hid hv
              clear hv
              go_wp2_with fail
              go_ret
              refine ⟨ret_int ?_, HBX.out⟩
              rw [HD.out, if_neg (by omega), if_neg h40, if_neg]
              have hg := goodT_le (n := n) (l := l) hlt
              rw [hg]
              · simp
              · show (goodT n l k && (lineB n (l.getD k (0, 0, 0)) && (decide (k = 0) || ltT (l.getD (k - 1) (0, 0, 0)) (l.getD k (0, 0, 0))))) = false
                rw [HXD.out, HV.out, Bool.and_false]
            · have HV := Lib.hid hv
              clear hv
              go_wp2_with fail
              go_roundw
              case rel =>
                refine ⟨k + 1, by go_num, by omega, Lib.hid ?_, HBX⟩
                show (goodT n l k && (lineB n (l.getD k (0, 0, 0)) && (decide (k = 0) || ltT (l.getD (k - 1) (0, 0, 0)) (l.getD k (0, 0, 0))))) = true
                rw [HXD.out, HV.out, HG.out]; rfl
              case measure => simp [intOf]; omega
        · obtain rfl : k = l.length := by omega
          go_wp2_with fail
          go_ret
          exact ⟨ret_int (by rw [HD.out, if_neg (by omega), if_neg h40, if_pos HG.out]), HB.out⟩

end Go.Proofs.Ythbhengcinkepaa
