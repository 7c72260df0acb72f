/- The function Grid of package light. -/
import Derived.Test.YtpdgjjpfahobaaaLig6
namespace Go.Proofs.Ytpdgjjpfahobaaa
open Go.RowKit Lamp

/-- A row of pairs of one's own, in memory from base on. -/
def OwnE (w : World) (base : Nat) (v : Value) (l : List (Int × Int)) : Prop := w.ownsRow base 41 2 v l.length (edgeV l)
theorem OwnE.nil_ (w : World) (base : Nat) : OwnE w base (.slice none 0 0) [] := ⟨by simp [edgeV], .inl ⟨rfl, rfl⟩⟩
theorem OwnE.blk {w : World} {base : Nat} {v : Value} {l : List (Int × Int)} (h : OwnE w base v l) : ∀ g, v.ownBlock = some g → base ≤ g := by
  intro g hg
  rcases h.2 with ⟨rfl, _⟩ | ⟨g', cap, cur, rfl, hb, _⟩
  · cases hg
  · have : g' = g := by simpa [Value.ownBlock] using hg
    subst this
    exact hb
theorem edgeV_snoc (l : List (Int × Int)) (x y : Int) : edgeV (l ++ [(x, y)]) = edgeV l ++ [Value.int .i64 x, Value.int .i64 y] := by simp [edgeV]
theorem edgeV_len (l : List (Int × Int)) : (edgeV l).length = l.length * 2 := by
  induction l with
  | nil => rfl
  | cons a l ih => simp [edgeV] at ih ⊢; omega
theorem OwnE.reads {w : World} {b : Nat} {v : Value} {l : List (Int × Int)} (h : OwnE w b v l) : ∃ A c, v = .slice A l.length c ∧ REdges w w.heap.size A l := by
  rcases h.2 with ⟨rfl, h1⟩ | ⟨g, cap, cur, e, hb, hh, h2, h3, h4⟩
  · exact ⟨none, 0, by rw [h1], fun j u hu => by rw [List.length_eq_zero_iff.1 h1] at hu; simp [edgeV] at hu⟩
  · refine ⟨_, cap, e, fun j u hu => ?_⟩
    have hbx : Box w g 41 cur := hh
    refine ⟨g, 0, rfl, hbx.lt, ?_⟩
    rw [Nat.zero_add, hbx.cell j]
    have hj : j < l.length * 2 := by
      have := (List.getElem?_eq_some_iff.1 hu).1
      rw [edgeV_len] at this
      exact this
    have h5 : (List.take (l.length * 2) cur.toList)[j]? = some u := by rw [h4.2]; exact hu
    rw [List.getElem?_take, if_pos hj] at h5
    simpa using h5

/-- The edges of a grid, of the first k lamps. -/
def gridK (r c : Nat) : Nat → List (Int × Int)
  | 0 => []
  | k + 1 => (gridK r c k ++ if k % c < c - 1 then [((k : Int), ((k + 1 : Nat) : Int))] else []) ++ if k / c < r - 1 then [((k : Int), ((k + c : Nat) : Int))] else []
def gridL (r c : Nat) : List (Int × Int) := gridK r c (r * c)
theorem gridK_len (r c k : Nat) : (gridK r c k).length ≤ 2 * k := by
  induction k with
  | zero => simp [gridK]
  | succ k ih =>
    unfold gridK
    rw [List.length_append, List.length_append]
    split <;> split <;> simp <;> omega

theorem Try.info41 : (Try.prog.info? 41).map (fun i => (i.zero, i.size, i.bytes)) = some (some (.agg #[.int .i64 0, .int .i64 0]), 2, 16) := by kernel_rfl

/-- What appending one pair leaves. -/
theorem OwnE.add {w9 : World} {base : Nat} {v9 : Value} {l : List (Int × Int)} {x y : Int} (h : w9.ownsRow base 41 2 v9 (l.length + 1) (edgeV l ++ [Value.int .i64 x, Value.int .i64 y])) : OwnE w9 base v9 (l ++ [(x, y)]) := by
  unfold OwnE
  rw [List.length_append, edgeV_snoc]
  exact h

/-- The append of one pair to a row of one's own. -/
theorem wpList_addE (w : World) {ops : Array Oper} {rest : List Oper} {o : Oper} {a : Act} {Q : Exit → Act → World → Prop} (hg : o.guard = none) (s x : Operand)
    (hop : o.op = Op.call { callee := Callee.builtin Builtin.append, args := #[s, x], argTypes := #[22, 22] }) {base : Nat} {v : Value} {l : List (Int × Int)} (h : OwnE w base v l) (hs : a.eval s = v)
    (ad c : Nat) (p q : Int) (hx : a.eval x = .slice (some ⟨ad, 0, none⟩) 1 c) (hb : Box w ad 41 #[.int .i64 p, .int .i64 q]) (hl : l.length ≤ 1000000) (hbase : base ≤ w.heap.size)
    (hK : ∀ (v' : Value) (w' : World), OwnE w' base v' (l ++ [(p, q)]) → w.grownBy w' v.ownBlock → wpList Try.prog ops Q rest (a.put o.dst v') w') :
    wpList Try.prog ops Q (o :: rest) a w := by
  obtain ⟨i0, hi, hz0, hz1, hz2⟩ := info_parts Try.info41
  refine wpList_append_own w hg s x 22 hop base 41 i0 (.agg #[.int .i64 0, .int .i64 0]) 2 16 Try.underlying22 hi hz0 hz1 hz2 rfl (by decide) v l.length (edgeV l) hs h ⟨ad, 0, none⟩ 1 c [.int .i64 p, .int .i64 q] hx rfl (World.news_of_block (cs := #[.int .i64 p, .int .i64 q]) (t := 41) (fr := (0, 0)) hb) (by simp [Value.oneCell']) (by unfold maxLen; omega) (by omega) hbase ?_
  intro v' w' h1 h2 _
  exact hK v' w' (OwnE.add h1) h2

set_option maxRecDepth 100000 in
set_option maxHeartbeats 4000000 in
theorem Grid_ok (r c m : Nat) (w : World) (hr1 : 1 ≤ r) (hc1 : 1 ≤ c) (hr : r ≤ 16) (hc : c ≤ 16) (hm : m = r * c) (hm16 : m ≤ 16) :
    Calls Try.prog 42 #[.int .i64 r, .int .i64 c] w fun e w' => ∃ v, e = .returned (.tuple #[.int .i64 (m : Nat), v, .int .i64 0]) ∧ OwnE w' w.heap.size v (gridL r c) ∧ Below w.heap.size w w' := by
  have hrc : (r : Int) * (c : Int) = (m : Int) := by rw [hm]; simp
  have d1 : decide ((r : Int) < 1) = false := by simp; omega
  have d2 : decide ((c : Int) < 1) = false := by simp; omega
  have d3 : decide ((16 : Int) < (r : Int)) = false := by simp; omega
  have d4 : decide ((16 : Int) < (c : Int)) = false := by simp; omega
  have hm' : (m : Int) ≤ 16 := by omega
  have hc0 : (c : Int) ≠ 0 := by omega
  have HG := Lib.hid (show gridL r c = gridK r c m by unfold gridL; rw [hm])
  have HM := Lib.hid hm
  clear hm
  obtain ⟨i0, hi, hz0, hz1, hz2⟩ := info_parts Try.info41
  go_enter Try.func42, Try.ntmps42
  go_wp2_with fail
  go_loopw [7, 32] (fun sv i wr => ∃ (k : Nat) (v : Value), v = sv ∧ i = .int .i64 k ∧ k ≤ m ∧ Hid (OwnE wr w.heap.size v (gridK r c k)) ∧ Hid (Below w.heap.size w wr)) (fun _ i _ => m - (intOf i).toNat)
  case atStart => exact ⟨0, _, rfl, rfl, by omega, Lib.hid (OwnE.nil_ _ _), Lib.hid (Below.refl _ _)⟩
  case round =>
    obtain ⟨k, v, rfl, rfl, hk, HO1, HB1⟩ := hrel
    have HO := HO1
    have HB := HB1
    clear HO1 HB1
    have hbs := HB.out.size
    by_cases hlt : k < m
    · obtain ⟨l, hl⟩ : ∃ l, gridK r c k = l := ⟨_, rfl⟩
      have hlen := gridK_len r c k
      have HS := Lib.hid (show gridK r c (k + 1) = (gridK r c k ++ if k % c < c - 1 then [((k : Int), ((k + 1 : Nat) : Int))] else []) ++ if k / c < r - 1 then [((k : Int), ((k + c : Nat) : Int))] else [] from rfl)
      rw [hl] at HS hlen HO
      have hmod : (k : Int) % (c : Int) = ((k % c : Nat) : Int) := by simp
      have hdiv : (k : Int) / (c : Int) = ((k / c : Nat) : Int) := by simp
      obtain ⟨p, hp⟩ : ∃ p, k % c = p := ⟨_, rfl⟩
      obtain ⟨q, hq⟩ : ∃ q, k / c = q := ⟨_, rfl⟩
      rw [hp] at hmod HS
      rw [hq] at hdiv HS
      have hq' : q ≤ 16 := by rw [← hq]; exact Nat.le_trans (Nat.div_le_self _ _) (by omega)
      have hp' : p ≤ 16 := by rw [← hp]; exact Nat.le_trans (Nat.mod_le _ _) (by omega)
      have hL1 : l.length + 1 ≤ maxLen ∧ (l.length + 1) * 16 ≤ 140737488355328 := ⟨by unfold maxLen; omega, by omega⟩
      have hL2 : l.length + 1 + 1 ≤ maxLen ∧ (l.length + 1 + 1) * 16 ≤ 140737488355328 := ⟨by unfold maxLen; omega, by omega⟩
      have HL1 := Lib.hid hL1
      have HL2 := Lib.hid hL2
      clear hL1 hL2 hl hp hq
      by_cases ha : p < c - 1 <;> by_cases hb : q < r - 1
      · rw [if_pos ha, if_pos hb] at HS
        have ha' : (p : Int) < (c : Int) - 1 := by omega
        have hb' : (q : Int) < (r : Int) - 1 := by omega
        clear ha hb
        go_wp2_with (first
          | (at_builtin; refine wpList_addE _ rfl _ _ rfl (World.ownsRow.alloc hown8 _) rfl w8.heap.size _ (k : Int) ((k : Int) + (c : Int)) rfl (Box.new _ _ _) (by simp; omega) ?_ ?_; (have hz8 := hg8.size; simp at hz8 ⊢; omega); intro v9 w9 hown9 hg9)
          | (at_builtin; refine wpList_addE _ rfl _ _ rfl (World.ownsRow.alloc HO.out _) rfl wr.heap.size _ (k : Int) ((k : Int) + 1) rfl (Box.new _ _ _) (by omega) ?_ ?_; (simp; omega); intro v8 w8 hown8 hg8))
        have HB8 := Lib.hid (show Below w.heap.size w w8 from (HB.out.alloc HB.out.size _).grown hg8 (by simp; have := HB.out.size; omega) (fun j hj => HO.out.blk j hj))
        have HB9 := Lib.hid (show Below w.heap.size w w9 from (HB8.out.alloc HB8.out.size _).grown hg9 (by simp; have := HB8.out.size; omega) (fun j hj => hown8.blk j hj))
        have HE := Lib.hid (show gridK r c (k + 1) = l ++ [((k : Int), (k : Int) + 1)] ++ [((k : Int), (k : Int) + (c : Int))] by rw [HS.out]; rfl)
        have HP := Lib.hid hown9
        clear hown8 hown9 hg8 hg9
        go_roundw
        case rel => exact ⟨k + 1, v9, rfl, by go_num, by omega, by rw [HE.out]; exact HP, HB9⟩
        case measure => simp [intOf]; omega
      · rw [if_pos ha, if_neg hb] at HS
        have ha' : (p : Int) < (c : Int) - 1 := by omega
        have hb' : (r : Int) - 1 ≤ (q : Int) := by omega
        clear ha hb
        go_wp2_with (at_builtin; refine wpList_addE _ rfl _ _ rfl (World.ownsRow.alloc HO.out _) rfl wr.heap.size _ (k : Int) ((k : Int) + 1) rfl (Box.new _ _ _) (by omega) ?_ ?_; (simp; omega); intro v8 w8 hown8 hg8)
        have HB8 := Lib.hid (show Below w.heap.size w w8 from (HB.out.alloc HB.out.size _).grown hg8 (by simp; have := HB.out.size; omega) (fun j hj => HO.out.blk j hj))
        have HE := Lib.hid (show gridK r c (k + 1) = l ++ [((k : Int), (k : Int) + 1)] by rw [HS.out]; simp)
        have HP := Lib.hid hown8
        clear hown8 hg8
        go_roundw
        case rel => exact ⟨k + 1, v8, rfl, by go_num, by omega, by rw [HE.out]; exact HP, HB8⟩
        case measure => simp [intOf]; omega
      · rw [if_neg ha, if_pos hb] at HS
        have ha' : (c : Int) - 1 ≤ (p : Int) := by omega
        have hb' : (q : Int) < (r : Int) - 1 := by omega
        clear ha hb
        go_wp2_with (at_builtin; refine wpList_addE _ rfl _ _ rfl (World.ownsRow.alloc HO.out _) rfl wr.heap.size _ (k : Int) ((k : Int) + (c : Int)) rfl (Box.new _ _ _) (by omega) ?_ ?_; (simp; omega); intro v8 w8 hown8 hg8)
        have HB8 := Lib.hid (show Below w.heap.size w w8 from (HB.out.alloc HB.out.size _).grown hg8 (by simp; have := HB.out.size; omega) (fun j hj => HO.out.blk j hj))
        have HE := Lib.hid (show gridK r c (k + 1) = l ++ [((k : Int), (k : Int) + (c : Int))] by rw [HS.out]; simp)
        have HP := Lib.hid hown8
        clear hown8 hg8
        go_roundw
        case rel => exact ⟨k + 1, v8, rfl, by go_num, by omega, by rw [HE.out]; exact HP, HB8⟩
        case measure => simp [intOf]; omega
      · rw [if_neg ha, if_neg hb, List.append_nil, List.append_nil] at HS
        have ha' : (c : Int) - 1 ≤ (p : Int) := by omega
        have hb' : (r : Int) - 1 ≤ (q : Int) := by omega
        clear ha hb
        go_wp2_with fail
        go_roundw
        case rel => exact ⟨k + 1, v, rfl, by go_num, by omega, by rw [HS.out]; exact HO, HB⟩
        case measure => simp [intOf]; omega
    · obtain rfl : k = m := by omega
      go_wp2_with fail
      go_ret3
      exact ⟨v, rfl, by rw [HG.out]; exact HO.out, HB.out⟩
end Go.Proofs.Ytpdgjjpfahobaaa
