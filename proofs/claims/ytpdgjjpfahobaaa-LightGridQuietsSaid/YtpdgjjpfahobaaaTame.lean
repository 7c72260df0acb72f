/- The function tame of the statements of package light: a graph made of any numbers. -/
import Derived.Test.YtpdgjjpfahobaaaGrid
namespace Go.Proofs.Ytpdgjjpfahobaaa
open Go.RowKit Lamp

/-- A number brought below m, as the statements do it. -/
def remN (x : Int) (m : Nat) : Nat := (IntKind.u64.wrap x % (m : Int)).toNat
theorem remN_lt (x : Int) {m : Nat} (h : 1 ≤ m) : remN x m < m := by
  have h1 := Int.emod_nonneg (IntKind.u64.wrap x) (b := (m : Int)) (by omega)
  have h2 := Int.emod_lt_of_pos (IntKind.u64.wrap x) (b := (m : Int)) (by omega)
  unfold remN; omega
theorem remN_tmod (x : Int) {m : Nat} (h : 1 ≤ m) : (IntKind.u64.wrap x).tmod (m : Int) = ((remN x m : Nat) : Int) := by
  have h0 : 0 ≤ IntKind.u64.wrap x := by
    simp only [IntKind.wrap, IntKind.signed, Bool.false_and, Bool.false_eq_true, if_false]
    exact Int.emod_nonneg _ (by decide)
  have h1 := Int.emod_nonneg (IntKind.u64.wrap x) (b := (m : Int)) (by omega)
  rw [Int.tmod_eq_emod_of_nonneg h0]
  unfold remN; omega

/-- 256 bools. -/
def bCells (f : Nat → Bool) : Array Value := ((List.range 256).map fun i => Value.bool (f i)).toArray
theorem bCells_at (f : Nat → Bool) (i : Nat) (h : i < 256) : (bCells f)[i]? = some (.bool (f i)) := by simp [bCells, h]
theorem bCells_set (f : Nat → Bool) (i : Nat) (v : Bool) : (bCells f).setIfInBounds i (.bool v) = bCells (fun j => if j = i then v else f j) := by
  unfold bCells
  rw [List.setIfInBounds_toArray]
  congr 1
  apply List.ext_getElem
  · simp
  · intro j h1 h2
    rw [List.getElem_set]
    simp only [List.getElem_map, List.getElem_range]
    by_cases e : i = j
    · subst e; simp
    · rw [if_neg e, if_neg (Ne.symm e)]
def pos16 (a b : Nat) : Nat := 16 * min a b + max a b
/-- Which pairs the first k edges name, brought below m. -/
def inK (m : Nat) (l : List (Int × Int)) : Nat → Nat → Bool
  | 0, _ => false
  | k + 1, i => if i = pos16 (remN (l.getD k (0, 0)).1 m) (remN (l.getD k (0, 0)).2 m) then decide (remN (l.getD k (0, 0)).1 m ≠ remN (l.getD k (0, 0)).2 m) else inK m l k i
theorem u64_rem (x : Int) {m : Nat} (h1 : 1 ≤ m) (hm : m ≤ 16) : IntKind.i64.wrap ((IntKind.u64.wrap x).tmod (m : Int)) = ((remN x m : Nat) : Int) := by
  rw [remN_tmod x h1]; have := remN_lt x h1; exact IntWalk.i64_in _ (by omega)

theorem ownE_base {w : World} {b b' : Nat} {v : Value} {l : List (Int × Int)} (h : OwnE w b v l) (hb : b' ≤ b) : OwnE w b' v l := by
  refine ⟨h.1, ?_⟩
  rcases h.2 with h1 | ⟨g, cap, cur, e, h2, h3⟩
  · exact .inl h1
  · exact .inr ⟨g, cap, cur, e, Nat.le_trans hb h2, h3⟩
/-- The pairs of the first k places that are marked. -/
def outK (f : Nat → Bool) (k : Nat) : List (Int × Int) := ((List.range k).filter f).map fun i => (((i / 16 : Nat) : Int), ((i % 16 : Nat) : Int))
theorem outK_succ (f : Nat → Bool) (k : Nat) : outK f (k + 1) = if f k then outK f k ++ [(((k / 16 : Nat) : Int), ((k % 16 : Nat) : Int))] else outK f k := by
  unfold outK
  rw [List.range_succ, List.filter_append, List.map_append]
  cases h : f k <;> simp [h]
theorem outK_len (f : Nat → Bool) (k : Nat) : (outK f k).length ≤ k := by
  unfold outK
  rw [List.length_map]
  exact Nat.le_trans (List.length_filter_le _ _) (by simp)
/-- The edges of a graph that is made of any numbers. -/
def tameL (m : Nat) (l : List (Int × Int)) : List (Int × Int) := outK (inK m l (min l.length 60)) 256

set_option maxRecDepth 100000 in
set_option maxHeartbeats 8000000 in
theorem tame_any (A : Option Addr) (n : Int) (l : List (Int × Int)) (c M : Nat) (w : World) (hr : REdges w w.heap.size A l) (hl : l.length ≤ 9223372036854775807) (hM1 : 1 ≤ M) (hM : M ≤ 16) :
    Calls Try.prog 32 #[.int .i64 n, .slice A l.length c, .int .i64 M] w fun e w' => ∃ v, e = .returned (.tuple #[.int .i64 (1 + remN n M : Nat), v]) ∧ OwnE w' w.heap.size v (tameL (1 + remN n M) l) ∧ Below w.heap.size w w' := by
  have ht := remN_tmod n hM1
  have hlt := remN_lt n hM1
  have hMi : ((M : Int) = 0) = False := by simp; omega
  have hMw : IntKind.u64.wrap (M : Int) = (M : Int) := by rw [IntKind.wrap_u64]; omega
  obtain ⟨r, hr2⟩ : ∃ r, remN n M = r := ⟨_, rfl⟩
  rw [hr2] at ht hlt ⊢
  go_enter Try.func32, Try.ntmps32
  go_upto_region 2 with fail
  go_upto_region 3 with fail
  have hz : Try.zeroCells104 = bCells (fun _ => false) := by kernel_rfl
  rw [hz]
  obtain ⟨m, hm⟩ : ∃ m, m = 1 + r := ⟨_, rfl⟩
  rw [show (1 : Int) + (r : Int) = (m : Int) by omega]
  have hm1 : 1 ≤ m := by omega
  have hm16 : m ≤ 16 := by omega
  have HR := Lib.hid hr
  have HM := Lib.hid hm
  clear hz ht hlt hMi hMw hr hm
  have hmi : ((m : Int) = 0) = False := by simp; omega
  have hmw : IntKind.u64.wrap (m : Int) = (m : Int) := by rw [IntKind.wrap_u64]; omega
  go_wp2_with fail
  go_loopw [9] (fun i wr => ∃ k : Nat, i = .int .i64 k ∧ k ≤ l.length ∧ k ≤ 60 ∧ Hid (Box wr w.heap.size 104 (bCells (inK m l k))) ∧ Hid (Below w.heap.size w wr)) (fun i _ => 60 - (intOf i).toNat)
  case atStart => exact ⟨0, rfl, by omega, by omega, Lib.hid (Box.new w _ _), Lib.hid ((Below.refl _ _).alloc (Nat.le_refl _) _)⟩
  case round =>
    obtain ⟨k, rfl, hkl, hk60, HX1, HB1⟩ := hrel
    have HX := HX1
    have HB := HB1
    clear HX1 HB1
    by_cases hgo : k < l.length ∧ k < 60
    · obtain ⟨hg1, hg2⟩ := hgo
      obtain ⟨b, o, x, y, hA, hb, hx, hc1, hc2⟩ := (HR.out.keep HB.out).at_ hg1
      subst hA
      have HXY := Lib.hid (show l.getD k (0, 0) = (x, y) by rw [List.getD_eq_getElem?_getD, hx]; rfl)
      have hg2' : (k : Int) < 60 := by omega
      have e1 := u64_rem x hm1 hm16
      have e2 := u64_rem y hm1 hm16
      have hg1' : (k : Int) < (l.length : Int) := by omega
      have hk0 : (0 : Int) ≤ (k : Int) := by omega
      clear hx
      go_upto_region 6 with fail
      go_quiet (fail)
      go_upto_region 7 with fail
      have hpl := remN_lt x hm1
      have hql := remN_lt y hm1
      have HIN := Lib.hid (show inK m l (k + 1) = fun i => if i = pos16 (remN x m) (remN y m) then decide (remN x m ≠ remN y m) else inK m l k i by funext i; rw [inK, HXY.out])
      obtain ⟨p, hp⟩ : ∃ p, remN x m = p := ⟨_, rfl⟩
      obtain ⟨q, hq⟩ : ∃ q, remN y m = q := ⟨_, rfl⟩
      rw [hp, hq] at HIN ⊢
      rw [hp] at hpl
      rw [hq] at hql
      obtain ⟨W1, hW1⟩ : ∃ W1, wr.drewN nq = W1 := ⟨_, rfl⟩
      rw [hW1]
      have HX1 := Lib.hid (show Box W1 w.heap.size 104 (bCells (inK m l k)) by rw [← hW1]; exact HX.out.drewN _)
      have HB1 := Lib.hid (show Below w.heap.size w W1 by rw [← hW1]; exact below_drewN HB.out _)
      clear hp hq hW1 HX HB hc1 hc2 e1 e2 HXY
      rcases Nat.lt_trichotomy p q with hpq | hpq | hpq
      · have hpos : pos16 p q = 16 * p + q := by unfold pos16; omega
        have HPOS := Lib.hid hpos
        have hi256 : 16 * p + q < 256 := by omega
        have hcx := HX1.out.cell (16 * p + q)
        rw [bCells_at _ _ hi256] at hcx
        have hfx := HX1.out.free (16 * p + q)
        have hmn : min (p : Int) (q : Int) = (p : Int) := by omega
        have hmx : max (p : Int) (q : Int) = (q : Int) := by omega
        have hto : (16 * (p : Int) + (q : Int)).toNat = 16 * p + q := by omega
        have h2 : ((p : Int) == (q : Int)) = false := by rw [beq_eq_false_iff_ne]; omega
        have h3 : ((p : Int) != (q : Int)) = true := by simp only [bne, h2, Bool.not_false]
        clear hpos
        go_wp2_with fail
        clear hcx hfx
        go_roundw
        case rel =>
          refine ⟨k + 1, by go_num, by omega, by omega, Lib.hid ?_, Lib.hid ?_⟩
          · rw [HIN.out, HPOS.out, ← bCells_set]
            have h1 := HX1.out.put (16 * p + q) (.bool true)
            first
              | exact h1
              | (rw [show decide (p ≠ q) = true from by simp; omega]; exact h1)
          · exact HB1.out.setCell (p := ⟨w.heap.size, 16 * p + q, none⟩) (Nat.le_refl _) _
        case measure => simp [intOf]; omega
      · subst hpq
        have hpos : pos16 p p = 16 * p + p := by unfold pos16; omega
        have HPOS := Lib.hid hpos
        have hi256 : 16 * p + p < 256 := by omega
        have hcx := HX1.out.cell (16 * p + p)
        rw [bCells_at _ _ hi256] at hcx
        have hfx := HX1.out.free (16 * p + p)
        have h2 : ((p : Int) == (p : Int)) = true := by simp
        have h3 : ((p : Int) != (p : Int)) = false := by simp
        clear hpos
        go_wp2_with fail
        clear hcx hfx
        go_roundw
        case rel =>
          refine ⟨k + 1, by go_num, by omega, by omega, Lib.hid ?_, Lib.hid ?_⟩
          · rw [HIN.out, HPOS.out, ← bCells_set]
            have h1 := HX1.out.put (16 * p + p) (.bool false)
            first
              | exact h1
              | (rw [show decide (p ≠ p) = false from by simp]; exact h1)
          · exact HB1.out.setCell (p := ⟨w.heap.size, 16 * p + p, none⟩) (Nat.le_refl _) _
        case measure => simp [intOf]; omega
      · have hpos : pos16 p q = 16 * q + p := by unfold pos16; omega
        have HPOS := Lib.hid hpos
        have hi256 : 16 * q + p < 256 := by omega
        have hcx := HX1.out.cell (16 * q + p)
        rw [bCells_at _ _ hi256] at hcx
        have hfx := HX1.out.free (16 * q + p)
        have hmn : min (p : Int) (q : Int) = (q : Int) := by omega
        have hmx : max (p : Int) (q : Int) = (p : Int) := by omega
        have hto : (16 * (q : Int) + (p : Int)).toNat = 16 * q + p := by omega
        have h2 : ((p : Int) == (q : Int)) = false := by rw [beq_eq_false_iff_ne]; omega
        have h3 : ((p : Int) != (q : Int)) = true := by simp only [bne, h2, Bool.not_false]
        clear hpos
        go_wp2_with fail
        clear hcx hfx
        go_roundw
        case rel =>
          refine ⟨k + 1, by go_num, by omega, by omega, Lib.hid ?_, Lib.hid ?_⟩
          · rw [HIN.out, HPOS.out, ← bCells_set]
            have h1 := HX1.out.put (16 * q + p) (.bool true)
            first
              | exact h1
              | (rw [show decide (p ≠ q) = true from by simp; omega]; exact h1)
          · exact HB1.out.setCell (p := ⟨w.heap.size, 16 * q + p, none⟩) (Nat.le_refl _) _
        case measure => simp [intOf]; omega
    · have hkK : k = min l.length 60 := by omega
      obtain ⟨f, hf⟩ : ∃ f, inK m l k = f := ⟨_, rfl⟩
      have HF := Lib.hid (show inK m l (min l.length 60) = f by rw [← hkK]; exact hf)
      rw [hf] at HX
      have HKK := Lib.hid hkK
      obtain ⟨wo, rfl⟩ : ∃ wo : World, wo = wr := ⟨_, rfl⟩
      have HGO := Lib.hid hgo
      have hbs := HB.out.size
      have hxl := HX.out.lt
      clear hkK hf hgo
      by_cases hg1 : k < l.length
      · have hg2 : (60 : Int) ≤ (k : Int) := by have := HGO.out; omega
        have hg1' : (k : Int) < (l.length : Int) := by omega
        have hg2' : ¬ (k : Int) < 60 := by omega
        go_wp2_with fail
        clear hg1' hg2'
        go_loopw [12, 13] (fun sv i ws => ∃ (j : Nat) (v : Value), v = sv ∧ i = .int .i64 j ∧ j ≤ 256 ∧ Hid (OwnE ws (w.heap.size + 1) v (outK f j)) ∧ Hid (Box ws w.heap.size 104 (bCells f)) ∧ Hid (Below w.heap.size w ws) ∧ wo.heap.size ≤ ws.heap.size) (fun _ i _ => 256 - (intOf i).toNat)
        case atStart => exact ⟨0, _, rfl, rfl, by omega, Lib.hid (OwnE.nil_ _ _), HX, HB, Nat.le_refl _⟩
        case round =>
          obtain ⟨j, v, rfl, rfl, hj, HO1, HX1, HB1, hsz⟩ := hrel
          have HO := HO1
          have HX2 := HX1
          have HB2 := HB1
          clear HO1 HX1 HB1 HX HB
          by_cases hlt : j < 256
          · have hcx := HX2.out.cell j
            rw [bCells_at f j hlt] at hcx
            have hd : (j : Int) / 16 = ((j / 16 : Nat) : Int) := by omega
            have hm2 : (j : Int) % 16 = ((j % 16 : Nat) : Int) := by omega
            have hlt' : (j : Int) < 256 := by omega
            have HLEN := Lib.hid (outK_len f j)
            cases hfj : f j
            · rw [hfj] at hcx
              have HE := Lib.hid (show outK f (j + 1) = outK f j by rw [outK_succ, hfj]; rfl)
              clear hfj
              go_wp2_with fail
              clear hcx
              go_roundw
              case rel => exact ⟨j + 1, v, rfl, by go_num, by omega, by rw [HE.out]; exact HO, HX2, HB2, hsz⟩
              case measure => simp [intOf]; omega
            · rw [hfj] at hcx
              have HE := Lib.hid (show outK f (j + 1) = outK f j ++ [(((j / 16 : Nat) : Int), ((j % 16 : Nat) : Int))] by rw [outK_succ, hfj]; rfl)
              obtain ⟨p, hp⟩ : ∃ p, j / 16 = p := ⟨_, rfl⟩
              obtain ⟨q, hq⟩ : ∃ q, j % 16 = q := ⟨_, rfl⟩
              rw [hp, hq] at HE
              rw [hp] at hd
              rw [hq] at hm2
              clear hfj hp hq
              go_wp2_with (at_builtin; refine wpList_addE _ rfl _ _ rfl (World.ownsRow.alloc HO.out _) rfl wr.heap.size _ (p : Int) (q : Int) rfl (Box.new _ _ _) ?_ ?_ ?_; (have := HLEN.out; omega); (simp; omega); intro v8 w8 hown8 hg8)
              have hblk := HO.out.blk
              have HB8 := Lib.hid (show Below w.heap.size w w8 from (HB2.out.alloc HB2.out.size _).grown hg8 (by simp; omega) (fun i hi => Nat.le_trans (Nat.le_succ _) (hblk i hi)))
              have HX8 := Lib.hid (show Box w8 w.heap.size 104 (bCells f) from (HX2.out.alloc _).grown hg8 (fun e => by have := hblk _ e.symm; omega))
              have HP := Lib.hid hown8
              have hsz8 : wo.heap.size ≤ w8.heap.size := by have := hg8.size; simp at this; omega
              clear hown8 hg8 hblk hcx
              go_roundw
              case rel => exact ⟨j + 1, v8, rfl, by go_num, by omega, by rw [HE.out]; exact HP, HX8, HB8, hsz8⟩
              case measure => simp [intOf]; omega
          · obtain rfl : j = 256 := by omega
            go_wp2_with fail
            go_ret2
            refine ⟨v, ?_, ?_, HB2.out⟩
            · rw [HM.out]; rfl
            · have h1 := HO.out
              have h2 : tameL (1 + r) l = outK f 256 := by unfold tameL; rw [← HM.out, HF.out]
              rw [h2]
              exact ownE_base h1 (Nat.le_succ _)
      · have hg1' : (l.length : Int) ≤ (k : Int) := by omega
        have hg2' : ¬ (k : Int) < (l.length : Int) := by omega
        go_wp2_with fail
        clear hg1' hg2'
        go_loopw [12, 13] (fun sv i ws => ∃ (j : Nat) (v : Value), v = sv ∧ i = .int .i64 j ∧ j ≤ 256 ∧ Hid (OwnE ws (w.heap.size + 1) v (outK f j)) ∧ Hid (Box ws w.heap.size 104 (bCells f)) ∧ Hid (Below w.heap.size w ws) ∧ wo.heap.size ≤ ws.heap.size) (fun _ i _ => 256 - (intOf i).toNat)
        case atStart => exact ⟨0, _, rfl, rfl, by omega, Lib.hid (OwnE.nil_ _ _), HX, HB, Nat.le_refl _⟩
        case round =>
          obtain ⟨j, v, rfl, rfl, hj, HO1, HX1, HB1, hsz⟩ := hrel
          have HO := HO1
          have HX2 := HX1
          have HB2 := HB1
          clear HO1 HX1 HB1 HX HB
          by_cases hlt : j < 256
          · have hcx := HX2.out.cell j
            rw [bCells_at f j hlt] at hcx
            have hd : (j : Int) / 16 = ((j / 16 : Nat) : Int) := by omega
            have hm2 : (j : Int) % 16 = ((j % 16 : Nat) : Int) := by omega
            have hlt' : (j : Int) < 256 := by omega
            have HLEN := Lib.hid (outK_len f j)
            cases hfj : f j
            · rw [hfj] at hcx
              have HE := Lib.hid (show outK f (j + 1) = outK f j by rw [outK_succ, hfj]; rfl)
              clear hfj
              go_wp2_with fail
              clear hcx
              go_roundw
              case rel => exact ⟨j + 1, v, rfl, by go_num, by omega, by rw [HE.out]; exact HO, HX2, HB2, hsz⟩
              case measure => simp [intOf]; omega
            · rw [hfj] at hcx
              have HE := Lib.hid (show outK f (j + 1) = outK f j ++ [(((j / 16 : Nat) : Int), ((j % 16 : Nat) : Int))] by rw [outK_succ, hfj]; rfl)
              obtain ⟨p, hp⟩ : ∃ p, j / 16 = p := ⟨_, rfl⟩
              obtain ⟨q, hq⟩ : ∃ q, j % 16 = q := ⟨_, rfl⟩
              rw [hp, hq] at HE
              rw [hp] at hd
              rw [hq] at hm2
              clear hfj hp hq
              go_wp2_with (at_builtin; refine wpList_addE _ rfl _ _ rfl (World.ownsRow.alloc HO.out _) rfl wr.heap.size _ (p : Int) (q : Int) rfl (Box.new _ _ _) ?_ ?_ ?_; (have := HLEN.out; omega); (simp; omega); intro v8 w8 hown8 hg8)
              have hblk := HO.out.blk
              have HB8 := Lib.hid (show Below w.heap.size w w8 from (HB2.out.alloc HB2.out.size _).grown hg8 (by simp; omega) (fun i hi => Nat.le_trans (Nat.le_succ _) (hblk i hi)))
              have HX8 := Lib.hid (show Box w8 w.heap.size 104 (bCells f) from (HX2.out.alloc _).grown hg8 (fun e => by have := hblk _ e.symm; omega))
              have HP := Lib.hid hown8
              have hsz8 : wo.heap.size ≤ w8.heap.size := by have := hg8.size; simp at this; omega
              clear hown8 hg8 hblk hcx
              go_roundw
              case rel => exact ⟨j + 1, v8, rfl, by go_num, by omega, by rw [HE.out]; exact HP, HX8, HB8, hsz8⟩
              case measure => simp [intOf]; omega
          · obtain rfl : j = 256 := by omega
            go_wp2_with fail
            go_ret2
            refine ⟨v, ?_, ?_, HB2.out⟩
            · rw [HM.out]; rfl
            · have h1 := HO.out
              have h2 : tameL (1 + r) l = outK f 256 := by unfold tameL; rw [← HM.out, HF.out]
              rw [h2]
              exact ownE_base h1 (Nat.le_succ _)
end Go.Proofs.Ytpdgjjpfahobaaa
