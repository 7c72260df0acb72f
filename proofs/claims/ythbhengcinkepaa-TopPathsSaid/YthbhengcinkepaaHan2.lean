/- Discs: their check, their position, the distance. -/
import Derived.Test.YthbhengcinkepaaHan1
namespace Go.Proofs.Ythbhengcinkepaa
open Go.RowKit

/-- Whether a number is a peg. -/
def pegB (x : Int) : Bool := decide (0 ≤ x) && decide (x < 3)
/-- Whether a list is discs. -/
def discsB (l : List Int) : Bool := decide (1 ≤ l.length) && decide (l.length ≤ 40) && l.all pegB
theorem discsB_len {l : List Int} (h : discsB l = true) : 1 ≤ l.length ∧ l.length ≤ 40 := by
  simp only [discsB, Bool.and_eq_true, decide_eq_true_eq] at h
  exact h.1
theorem discsB_at {l : List Int} (h : discsB l = true) (i : Nat) : 0 ≤ l.getD i 0 ∧ l.getD i 0 < 3 := by
  simp only [discsB, Bool.and_eq_true, decide_eq_true_eq, List.all_eq_true, pegB] at h
  rcases Nat.lt_or_ge i l.length with hi | hi
  · rw [List.getD_eq_getElem?_getD, List.getElem?_eq_getElem hi]
    exact h.2 _ (List.getElem_mem hi)
  · rw [List.getD_eq_getElem?_getD, List.getElem?_eq_none hi]
    decide
theorem atL_lt {l : List Int} (h : discsB l = true) (i : Nat) : atL l i < 3 := by
  have := discsB_at h i
  unfold atL
  omega

set_option maxHeartbeats 1000000 in
theorem HCheck_any (A : Option Addr) (l : List Int) (c : Nat) (w : World) (hr : RInts w w.heap.size A l) (hl : l.length ≤ 9223372036854775807) :
    Calls Try.prog 165 #[.slice A l.length c] w fun e w' => e = .returned (.int .i64 (if discsB l = true then 0 else 30)) ∧ w = w' := by
  have HD := Lib.hid (show discsB l = (decide (1 ≤ l.length) && decide (l.length ≤ 40) && l.all pegB) from rfl)
  obtain ⟨D, hD⟩ : ∃ D, discsB l = D := ⟨_, rfl⟩
  rw [hD] at HD ⊢
  have HR := Lib.hid hr
  clear hr hD
  by_cases h1 : 1 ≤ l.length
  case neg =>
    have hf : D = false := by rw [HD.out, decide_eq_false h1]; rfl
    subst hf
    have h1i : (l.length : Int) < 1 := by omega
    go_enter Try.func165, Try.ntmps165
    go_wp2_with fail
    go_ret
    exact ⟨rfl, rfl⟩
  by_cases h2 : l.length ≤ 40
  case neg =>
    have hf : D = false := by rw [HD.out, decide_eq_false h2, Bool.and_false]; rfl
    subst hf
    have h1i : ¬ (l.length : Int) < 1 := by omega
    have h2i : (l.length : Int) > 40 := by omega
    go_enter Try.func165, Try.ntmps165
    go_wp2_with fail
    go_ret
    exact ⟨rfl, rfl⟩
  rw [decide_eq_true h1, decide_eq_true h2, Bool.true_and, Bool.true_and] at HD
  have h1i : ¬ (l.length : Int) < 1 := by omega
  have h2i : ¬ (l.length : Int) > 40 := by omega
  go_enter Try.func165, Try.ntmps165
  go_wp2_with fail
  go_loopg [15] l.length (fun g iv ws => ∃ k : Nat, k + g = l.length ∧ iv = .int .i64 k ∧ Hid (∀ x ∈ l.take k, pegB x = true) ∧ w = ws)
  case atStart => exact ⟨0, by omega, rfl, Lib.hid (by simp), rfl⟩
  case round =>
    obtain ⟨k, hk, rfl, HK1, rfl⟩ := hrel
    have HK := HK1
    clear HK1
    cases gk with
    | zero =>
      obtain rfl : k = l.length := by omega
      have ht : D = true := by
        rw [HD.out, List.all_eq_true]
        intro x hx
        exact HK.out x (by rw [List.take_length]; exact hx)
      subst ht
      have hge : ¬ (l.length : Int) < (l.length : Int) := by omega
      go_wp2_with fail
      go_ret
      exact ⟨rfl, rfl⟩
    | succ g =>
      have hkl : k < l.length := by omega
      have hkl' : (k : Int) < (l.length : Int) := by omega
      obtain ⟨b, o, x, hA, hb, hx, p0⟩ := HR.out.at_ hkl
      subst hA
      have HX := Lib.hid hx
      clear hx
      by_cases hx0 : x < 0
      · have hf : D = false := by
          rw [HD.out, List.all_eq_false]
          exact ⟨x, List.mem_of_getElem? HX.out, by unfold pegB; rw [decide_eq_false (by omega)]; simp⟩
        subst hf
        go_wp2_with fail
        go_ret
        exact ⟨rfl, rfl⟩
      · by_cases hx3 : x ≥ 3
        · have hf : D = false := by
            rw [HD.out, List.all_eq_false]
            exact ⟨x, List.mem_of_getElem? HX.out, by unfold pegB; rw [decide_eq_false (show ¬ x < 3 by omega)]; simp⟩
          subst hf
          go_wp2_with fail
          go_ret
          exact ⟨rfl, rfl⟩
        · have HN := Lib.hid (show ∀ y ∈ l.take (k + 1), pegB y = true from fun y hy => by
            have h3 := List.getElem?_eq_some_iff.1 HX.out
            rw [List.take_succ_eq_append_getElem h3.1, List.mem_append, h3.2, List.mem_singleton] at hy
            rcases hy with hy | rfl
            · exact HK.out y hy
            · unfold pegB; rw [decide_eq_true (by omega), decide_eq_true (by omega)]; rfl)
          go_wp2_with fail
          go_roundg g
          case measure => omega
          case rel => exact ⟨k + 1, by omega, by go_num, HN, rfl⟩

/-- The pegs of the first k discs, the others 0. -/
def topL (l : List Int) (k : Nat) (i : Nat) : Nat := if i < k then atL l i else 0
theorem topL_put (l : List Int) (k : Nat) : (fun j => if j = k then atL l k else topL l k j) = topL l (k + 1) := by
  funext j
  unfold topL
  by_cases h : j = k
  · subst h; rw [if_pos rfl, if_pos (by omega)]
  · rw [if_neg h]
    by_cases h2 : j < k
    · rw [if_pos h2, if_pos (by omega)]
    · rw [if_neg h2, if_neg (by omega)]
theorem topL_all (l : List Int) : topL l l.length = atL l := by
  funext j
  unfold topL
  split
  · rfl
  · next h => unfold atL; rw [List.getD_eq_getElem?_getD, List.getElem?_eq_none (by omega)]; rfl

theorem i8_peg {a : Nat} (h : a < 3) : IntKind.i8.wrap (a : Int) = (a : Int) := by
  rcases (show a = 0 ∨ a = 1 ∨ a = 2 by omega) with rfl | rfl | rfl <;> rfl
theorem zeroP : (#[.int .i8 0, .int .i8 0, .int .i8 0, .int .i8 0, .int .i8 0, .int .i8 0, .int .i8 0, .int .i8 0, .int .i8 0, .int .i8 0, .int .i8 0, .int .i8 0, .int .i8 0, .int .i8 0, .int .i8 0, .int .i8 0, .int .i8 0, .int .i8 0, .int .i8 0, .int .i8 0, .int .i8 0, .int .i8 0, .int .i8 0, .int .i8 0, .int .i8 0, .int .i8 0, .int .i8 0, .int .i8 0, .int .i8 0, .int .i8 0, .int .i8 0, .int .i8 0, .int .i8 0, .int .i8 0, .int .i8 0, .int .i8 0, .int .i8 0, .int .i8 0, .int .i8 0, .int .i8 0] : Array Value) = arrP (fun _ => 0) := by kernel_rfl
theorem lstP_one (f : Nat → Nat) : (arrP f).all (·.oneCell') = true := by
  rw [Array.all_eq_true]
  intro i hi
  simp only [List.getElem_toArray, lstP_at]
  rfl

set_option maxRecDepth 100000 in
set_option maxHeartbeats 2000000 in
theorem positionOf_any (A : Option Addr) (l : List Int) (c : Nat) (w : World) (hr : RInts w w.heap.size A l) (hd : discsB l = true) :
    Calls Try.prog 138 #[.slice A l.length c] w fun e w' => e = .returned (.agg (arrP (atL l))) ∧ Below w.heap.size w w' := by
  obtain ⟨hl1, hl40⟩ := discsB_len hd
  have HD := Lib.hid hd
  have HR := Lib.hid hr
  have HX0 := Lib.hid (Box.new w 188 (arrP fun _ => 0))
  have HX1 := Lib.hid (HX0.out.alloc (Obj.cells (arrP fun _ => 0) 188))
  have HY1 := Lib.hid (Box.new (w.alloc (Obj.cells (arrP fun _ => 0) 188)) 188 (arrP fun _ => 0))
  have HB1 := Lib.hid (((Below.refl w.heap.size w).alloc (Nat.le_refl _) (Obj.cells (arrP fun _ => 0) 188)).alloc (by simp) (Obj.cells (arrP fun _ => 0) 188))
  obtain ⟨W, hW⟩ : ∃ W, (w.alloc (Obj.cells (arrP fun _ => 0) 188)).alloc (Obj.cells (arrP fun _ => 0) 188) = W := ⟨_, rfl⟩
  have hs1 : (w.alloc (Obj.cells (arrP fun _ => 0) 188)).heap.size = w.heap.size + 1 := by simp
  rw [hs1] at HY1
  rw [hW] at HX1 HY1 HB1
  have HP0 := Lib.hid (show arrP (fun _ => 0) = arrP (topL l 0) from congrArg List.toArray (lstP_alike fun i _ => by simp [topL]))
  clear hr hd HX0 hs1
  go_enter Try.func138, Try.ntmps138
  go_wp2_with fail
  rw [zeroP, hW]
  clear hW
  go_loopg [8] l.length (fun g iv ws => ∃ k : Nat, k + g = l.length ∧ iv = .int .i64 k ∧ Hid (Box ws w.heap.size 188 (arrP fun _ => 0)) ∧ Hid (Box ws (w.heap.size + 1) 188 (arrP (topL l k))) ∧ Hid (Below w.heap.size w ws))
  case atStart => exact ⟨0, by omega, rfl, HX1, Lib.hid (HP0.out ▸ HY1.out), HB1⟩
  case round =>
    obtain ⟨k, hk, rfl, HX2, HY2, HB2⟩ := hrel
    have HX := HX2
    have HY := HY2
    have HB := HB2
    clear HX2 HY2 HB2 HX1 HY1 HB1
    cases gk with
    | zero =>
      obtain rfl : k = l.length := by omega
      have hge : ¬ (l.length : Int) < (l.length : Int) := by omega
      have hsz : ∀ f, (Try.prog.info? 188).map (·.size) = some (arrP f).size := fun f => by rw [arrP_size]; kernel_rfl
      have HE := Lib.hid (topL_all l)
      obtain ⟨F, hF⟩ : ∃ F, topL l l.length = F := ⟨_, rfl⟩
      rw [hF] at HE HY
      have hs1 := hsz F
      have hs0 := hsz fun _ => 0
      clear hF hsz
      go_wp2_with (first | (refine wpList_load_row rfl _ _ rfl (w.heap.size + 1) rfl 188 _ (0, 0) _ HY.out Try.underlying188 rfl hs1 ?_) | (refine wpList_store_row rfl _ _ _ rfl w.heap.size _ rfl rfl 188 _ HX.out hs1 (by simp [lstP_len]) (lstP_one F) ?_))
      (try simp only [Exit.inBlock, Exit.then])
      refine bodyPost_ret (results_cell_row rfl _ _ w.heap.size 188 (arrP F) (0, 0) _ rfl (setRow_heap wr w.heap.size _ (arrP F) _ _ HX.out) Try.underlying188 rfl hs1) rfl ?_
      refine ⟨by rw [HE.out], ?_⟩
      exact HB.out.trans ⟨rfl, rfl, rfl, by simp, fun j hj => setRow_other _ _ _ _ (by omega)⟩
    | succ g =>
      have hkl : k < l.length := by omega
      have hkl' : (k : Int) < (l.length : Int) := by omega
      have hk40 : k < 40 := by omega
      obtain ⟨b, o, x, hA, hb, hx, p0⟩ := (HR.out.below HB.out).at_ hkl
      subst hA
      have hx3 := discsB_at HD.out k
      have hxa : x = ((atL l k : Nat) : Int) := by
        have h1 : l.getD k 0 = x := by rw [List.getD_eq_getElem?_getD, hx]; rfl
        unfold atL
        rw [h1] at hx3 ⊢
        omega
      have ha3 := atL_lt HD.out k
      obtain ⟨a, ha⟩ : ∃ a, atL l k = a := ⟨_, rfl⟩
      have HA := Lib.hid ha
      rw [ha] at hxa ha3
      have q0 : ∃ u, wr.cell? ⟨w.heap.size + 1, k, none⟩ = some u := ⟨_, (HY.out.cell k).trans (arrP_get _ hk40)⟩
      obtain ⟨u0, q0⟩ := q0
      have f0 := HY.out.free k
      have hw8 := i8_peg ha3
      subst hxa
      clear hx hx3
      go_wp2_with fail
      have hb3 := (Below.refl (w.heap.size + 1) wr).setCell (p := ⟨w.heap.size + 1, k, none⟩) (Nat.le_refl _) (.int .i8 (a : Nat))
      have HX3 := Lib.hid (HX.out.below hb3 (by omega))
      have HY3 := Lib.hid (show Box (wr.setCell ⟨w.heap.size + 1, k, none⟩ (.int .i8 (a : Nat))) (w.heap.size + 1) 188 (arrP (topL l (k + 1))) by
        have h := HY.out.put k (.int .i8 (a : Nat))
        rw [arrP_put, ← HA.out, topL_put, HA.out] at h
        exact h)
      have HB3 := Lib.hid (HB.out.trans (hb3.mono (by omega)))
      clear hb3 q0 p0 f0 hw8
      go_roundg g
      case measure => omega
      case rel => exact ⟨k + 1, by omega, by go_num, HX3, HY3, HB3⟩

/-- What the check of two lists answers. -/
def chk2 (l1 l2 : List Int) : Int := if discsB l1 = true then (if discsB l2 = true then (if l2.length = l1.length then 0 else 6) else 30) else 30
set_option maxHeartbeats 2000000 in
theorem hcheck_two (A1 A2 : Option Addr) (l1 l2 : List Int) (c1 c2 b k : Nat) (w : World) (h0 : w.cell? ⟨b, 0, none⟩ = some (.slice A1 l1.length c1)) (h1 : w.cell? ⟨b, 1, none⟩ = some (.slice A2 l2.length c2))
    (hr1 : RInts w w.heap.size A1 l1) (hr2 : RInts w w.heap.size A2 l2) (hl1 : l1.length ≤ 9223372036854775807) (hl2 : l2.length ≤ 9223372036854775807) :
    Calls Try.prog 137 #[.slice (some ⟨b, 0, none⟩) 2 k] w fun e w' => e = .returned (.int .i64 (chk2 l1 l2)) ∧ w = w' := by
  have HC1 := Lib.hid (HCheck_any A1 l1 c1 w hr1 hl1)
  have HC2 := Lib.hid (HCheck_any A2 l2 c2 w hr2 hl2)
  have HR := Lib.hid (show chk2 l1 l2 = (if discsB l1 = true then (if discsB l2 = true then (if l2.length = l1.length then 0 else 6) else 30) else 30) from rfl)
  obtain ⟨R, hR⟩ : ∃ R, chk2 l1 l2 = R := ⟨_, rfl⟩
  obtain ⟨D1, hD1⟩ : ∃ D, discsB l1 = D := ⟨_, rfl⟩
  obtain ⟨D2, hD2⟩ : ∃ D, discsB l2 = D := ⟨_, rfl⟩
  rw [hR, hD1, hD2] at HR
  rw [hD1] at HC1
  rw [hD2] at HC2
  rw [hR]
  clear hR hD1 hD2 hr1 hr2
  go_enter Try.func137, Try.ntmps137
  go_wp2_with fail
  go_loopg [10] 2 (fun g iv ws => ∃ j : Nat, j + g = 2 ∧ iv = .int .i64 j ∧ Hid (1 ≤ j → D1 = true) ∧ Hid (2 ≤ j → D2 = true) ∧ w = ws)
  case atStart => exact ⟨0, by omega, rfl, Lib.hid (fun h => by omega), Lib.hid (fun h => by omega), rfl⟩
  case round =>
    obtain ⟨j, hj, rfl, HJ1, HJ2, rfl⟩ := hrel
    have HE1 := HJ1
    have HE2 := HJ2
    clear HJ1 HJ2
    cases gk with
    | zero =>
      obtain rfl : j = 2 := by omega
      have e1 := HE1.out (by omega)
      have e2 := HE2.out (by omega)
      subst e1 e2
      have hr := HR.out
      simp only [if_true] at hr
      clear HE1 HE2 HC1 HC2
      by_cases hll : l2.length = l1.length
      · rw [if_pos hll] at hr
        subst hr
        have hli : (l2.length : Int) = (l1.length : Int) := by omega
        clear hll
        go_wp2_with fail
        go_loopg [22] 2 (fun g iv ws => ∃ j : Nat, j + g = 2 ∧ iv = .int .i64 j ∧ w = ws)
        case atStart => exact ⟨0, by omega, rfl, rfl⟩
        case round =>
          obtain ⟨j, hj, rfl, rfl⟩ := hrel
          cases gk with
          | zero =>
            obtain rfl : j = 2 := by omega
            go_wp2_with fail
            go_ret
            exact ⟨rfl, rfl⟩
          | succ g =>
            rcases (show j = 0 ∨ j = 1 by omega) with rfl | rfl
            · go_wp2_with fail
              go_roundg g
              case measure => omega
              case rel => exact ⟨1, by omega, by go_num, rfl⟩
            · go_wp2_with fail
              go_roundg g
              case measure => omega
              case rel => exact ⟨2, by omega, by go_num, rfl⟩
      · rw [if_neg hll] at hr
        subst hr
        have hli : ¬ (l2.length : Int) = (l1.length : Int) := by omega
        clear hll
        go_wp2_with fail
        go_loopg [22] 2 (fun g iv ws => ∃ j : Nat, j + g = 2 ∧ j ≤ 1 ∧ iv = .int .i64 j ∧ w = ws)
        case atStart => exact ⟨0, by omega, by omega, rfl, rfl⟩
        case round =>
          obtain ⟨j, hj, hj1, rfl, rfl⟩ := hrel
          cases gk with
          | zero => exact absurd hj1 (by omega)
          | succ g =>
            rcases (show j = 0 ∨ j = 1 by omega) with rfl | rfl
            · go_wp2_with fail
              go_roundg g
              case measure => omega
              case rel => exact ⟨1, by omega, by omega, by go_num, rfl⟩
            · go_wp2_with fail
              go_ret
              exact ⟨rfl, rfl⟩
    | succ g =>
      rcases (show j = 0 ∨ j = 1 by omega) with rfl | rfl
      · go_wp2_with fail
        refine HC1.out.mono ?_
        rintro e w' ⟨rfl, rfl⟩
        cases D1 with
        | false =>
          have hr := HR.out
          simp only [Bool.false_eq_true, if_false] at hr
          subst hr
          simp only [Bool.false_eq_true, if_false]
          go_wp2_with fail
          go_ret
          exact ⟨rfl, rfl⟩
        | true =>
          simp only [if_true]
          go_wp2_with fail
          go_roundg g
          case measure => omega
          case rel => exact ⟨1, by omega, by go_num, Lib.hid (fun _ => trivial), Lib.hid (fun h => by omega), rfl⟩
      · have e1 := HE1.out (by omega)
        subst e1
        go_wp2_with fail
        refine HC2.out.mono ?_
        rintro e w' ⟨rfl, rfl⟩
        cases D2 with
        | false =>
          have hr := HR.out
          simp only [if_true, Bool.false_eq_true, if_false] at hr
          subst hr
          simp only [Bool.false_eq_true, if_false]
          go_wp2_with fail
          go_ret
          exact ⟨rfl, rfl⟩
        | true =>
          simp only [if_true]
          go_wp2_with fail
          go_roundg g
          case measure => omega
          case rel => exact ⟨2, by omega, by go_num, Lib.hid (fun _ => trivial), Lib.hid (fun _ => trivial), rfl⟩
end Go.Proofs.Ythbhengcinkepaa
