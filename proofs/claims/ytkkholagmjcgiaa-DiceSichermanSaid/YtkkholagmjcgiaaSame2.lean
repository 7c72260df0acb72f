/- The function Same of package dice, at dice: whether the sums of both, each with its ways, are the same. · The function Same of package dice, at dice; the reference's Same at two rows of ways; dice in another order have the same sums. -/
import Derived.Test.YtkkholagmjcgiaaShelf3
import Derived.Test.YtkkholagmjcgiaaAddsL
import Derived.Test.YtkkholagmjcgiaaRing
namespace Go.Proofs.Ytkkholagmjcgiaa
open Go.RowKit Go.Maps

/-- Two literal numbers, compared. -/
def eqLit : DataW Unit → DataW Unit → Bool
  | .lit (.int _ a), .lit (.int _ b) => a == b
  | _, _ => false

section
variable {w : World} {b1 b2 n1 n2 : Nat} {D1 D2 : DataW Unit} {f1 f2 : Int → Int}
theorem owns_form (h : w.ownsMap Try.prog 3 (plainElem Try.prog 2) b1 n1 D1) : ∃ es, D1 = .map es ∧ Maps.size D1 = (intKeys D1).length ∧ (∀ p ∈ es, ∃ x, p.1 = .int .i64 x ∧ x ∈ intKeys D1 ∧ ∀ z, D1.atKey (.int .i64 x) z = p.2) ∧ ∀ x ∈ intKeys D1, ∃ p ∈ es, p.1 = .int .i64 x := by
  obtain ⟨es, hD, hpw, hkeys⟩ := h.entries lawI
  obtain ⟨es', hD', hko⟩ := h.keysOf
  obtain rfl : es = es' := by rw [hD] at hD'; simpa using hD'
  subst hD
  refine ⟨es, rfl, ?_, fun p hp => ?_, fun x hx => ?_⟩
  · rw [Maps.size_eq]
    simp [intKeys]
  · obtain ⟨v, hv⟩ := hko p hp
    obtain ⟨x, _, hx, _⟩ := Maps.keyOf_i64 Try.underlying3 hv
    refine ⟨x, hx, ?_, fun z => ?_⟩
    · simp only [intKeys, List.mem_map]
      exact ⟨p, hp, by rw [hx]; rfl⟩
    · have := WideAt.atKey_mem (k := p.1) z (hkeys p hp) hpw hp
      rw [hx] at this
      exact this
  · simp only [intKeys, List.mem_map] at hx
    obtain ⟨p, hp, e⟩ := hx
    obtain ⟨v, hv⟩ := hko p hp
    obtain ⟨y, _, hy, _⟩ := Maps.keyOf_i64 Try.underlying3 hv
    rw [hy] at e
    have e2 : y = x := e
    exact ⟨p, hp, by rw [hy, e2]⟩

theorem equal_iff (h1 : w.ownsMap Try.prog 3 (plainElem Try.prog 2) b1 n1 D1) (h2 : w.ownsMap Try.prog 3 (plainElem Try.prog 2) b2 n2 D2)
    (a1 : ∀ x, W64 x → D1.atKey (.int .i64 x) (.lit (.int .i64 0)) = .lit (.int .i64 (f1 x))) (s1 : ∀ x, W64 x → Maps.has D1 (.int .i64 x) = nz f1 x)
    (a2 : ∀ x, W64 x → D2.atKey (.int .i64 x) (.lit (.int .i64 0)) = .lit (.int .i64 (f2 x))) (s2 : ∀ x, W64 x → Maps.has D2 (.int .i64 x) = nz f2 x) :
    Lib.equalFuncD eqLit D1 D2 = true ↔ ∀ x, W64 x → f1 x = f2 x := by
  obtain ⟨es1, e1, z1, k1, m1⟩ := owns_form h1
  obtain ⟨es2, e2, z2, _, _⟩ := owns_form h2
  obtain ⟨n1', w1', i1⟩ := mem_keys h1
  obtain ⟨n2', w2', i2⟩ := mem_keys h2
  have hen : Lib.entriesD D1 = es1 := by rw [e1]; rfl
  have hgood : ∀ p ∈ es1, ∀ x, p.1 = .int .i64 x → x ∈ intKeys D1 → p.2 = .lit (.int .i64 (f1 x)) ∧ Lib.goodD eqLit D2 p = (decide (x ∈ intKeys D2) && (f1 x == f2 x)) := fun p hp x hx hin => by
    have h64 := w1' x hin
    obtain ⟨y, hy, _, hat⟩ := k1 p hp
    obtain rfl : y = x := by rw [hx] at hy; injection hy with _ e; exact e.symm
    have hp2 : p.2 = .lit (.int .i64 (f1 y)) := (hat (.lit (.int .i64 0))).symm.trans (a1 y h64)
    refine ⟨hp2, ?_⟩
    unfold Lib.goodD
    rw [hx, hp2]
    by_cases hk : y ∈ intKeys D2
    · have hh := (i2 y).1 hk
      rw [hh, Maps.atKey_indep hh .nil (.lit (.int .i64 0)), a2 y h64, decide_eq_true hk]
      rfl
    · have hh : Maps.has D2 (.int .i64 y) = false := by
        cases hc : Maps.has D2 (.int .i64 y)
        · rfl
        · exact absurd ((i2 y).2 hc) hk
      rw [hh, decide_eq_false hk]
      rfl
  have hz : ∀ x, W64 x → (x ∈ intKeys D1 ↔ f1 x ≠ 0) ∧ (x ∈ intKeys D2 ↔ f2 x ≠ 0) := fun x h => by
    rw [i1, i2, s1 x h, s2 x h, nz_iff, nz_iff]
    exact ⟨Iff.rfl, Iff.rfl⟩
  unfold Lib.equalFuncD
  rw [hen, Bool.and_eq_true, decide_eq_true_eq, List.all_eq_true, z1, z2]
  constructor
  · rintro ⟨hs, hall⟩ x hx
    have hG : ∀ x ∈ intKeys D1, x ∈ intKeys D2 ∧ f1 x = f2 x := fun x hin => by
      obtain ⟨p, hp, he⟩ := m1 x hin
      have h9 := hall p hp
      rw [(hgood p hp x he hin).2, Bool.and_eq_true, decide_eq_true_eq, beq_iff_eq] at h9
      exact h9
    by_cases hin : x ∈ intKeys D1
    · exact (hG x hin).2
    · have hf1 : f1 x = 0 := Classical.byContradiction fun h => hin ((hz x hx).1.2 h)
      rw [hf1]
      refine Classical.byContradiction fun h => ?_
      have hin2 := (hz x hx).2.2 (fun e => h e.symm)
      have := nodup_le (x :: intKeys D1) (intKeys D2) (List.nodup_cons.2 ⟨hin, n1'⟩) (fun y hy => by
        rcases List.mem_cons.1 hy with rfl | hy
        · exact hin2
        · exact (hG y hy).1)
      rw [List.length_cons] at this
      omega
  · intro hf
    have hsub : ∀ x, x ∈ intKeys D1 → x ∈ intKeys D2 := fun x hin => (hz x (w1' x hin)).2.2 (by rw [← hf x (w1' x hin)]; exact (hz x (w1' x hin)).1.1 hin)
    have hsub2 : ∀ x, x ∈ intKeys D2 → x ∈ intKeys D1 := fun x hin => (hz x (w2' x hin)).1.2 (by rw [hf x (w2' x hin)]; exact (hz x (w2' x hin)).2.1 hin)
    refine ⟨Nat.le_antisymm (nodup_le _ _ n1' hsub) (nodup_le _ _ n2' hsub2), fun p hp => ?_⟩
    obtain ⟨x, hx, hin, _⟩ := k1 p hp
    rw [(hgood p hp x hx hin).2, decide_eq_true (hsub x hin), hf x (w1' x hin)]
    simp
end

/-- Whether two lists of dice have the same sums, each as often. -/
def sameB (a b : List (List Int)) : Bool := decide (sumsL a = sumsL b)
theorem sums_keys (ds : List (List Int)) : (sumsL ds).map (fun p : Int × Int => p.1) = keysW ds := by
  unfold sumsL
  rw [List.map_map]
  exact List.map_id' _
theorem sameB_iff {a b : List (List Int)} (ha : AreDice a) (hb : AreDice b) : sameB a b = true ↔ ∀ x, W64 x → waysF a x = waysF b x := by
  unfold sameB
  rw [decide_eq_true_eq]
  constructor
  · intro h x _
    have hk : keysW a = keysW b := by
      have := congrArg (List.map fun p : Int × Int => p.1) h
      rwa [sums_keys, sums_keys] at this
    by_cases hin : x ∈ keysW a
    · obtain ⟨i, hi⟩ := List.mem_iff_getElem?.1 hin
      have h1 : (sumsL a)[i]? = some (x, waysF a x) := by simp [sumsL, hi]
      have h2 : (sumsL b)[i]? = some (x, waysF b x) := by rw [hk] at hi; simp [sumsL, hi]
      rw [h, h2] at h1
      injection h1 with h1
      exact (Prod.mk.inj h1).2.symm
    · have hz : ∀ {ds : List (List Int)}, AreDice ds → x ∉ keysW ds → waysF ds x = 0 := fun hd hn => by
        refine Classical.byContradiction fun hne => hn ?_
        have := (waysOk_all _ (fun d h => (hd.die d h).ok) hd.len).2 x hne
        unfold keysW
        rw [List.mem_filter, mem_evK]
        exact ⟨by omega, nz_iff.2 hne⟩
      rw [hz ha hin, hz hb (by rw [← hk]; exact hin)]
  · intro h
    have hk : keysW a = keysW b := by
      unfold keysW
      refine List.filter_congr fun x hx => ?_
      have hx2 := mem_evK.1 hx
      unfold nz
      rw [h x ⟨by omega, by omega⟩]
    unfold sumsL
    rw [← hk]
    refine List.map_congr_left fun x hx => ?_
    unfold keysW at hx
    rw [List.mem_filter, mem_evK] at hx
    rw [h x ⟨by omega, by omega⟩]

end Go.Proofs.Ytkkholagmjcgiaa

namespace Go.Proofs.Ytkkholagmjcgiaa
open Go.RowKit Go.Shelf Go.Maps

theorem neqLit (W : World) (x y : Value) (xd yd : DataW Unit) (xp yp : List MemPlace) (hx : plainElem Try.prog 2 x = some (xd, xp)) (hy : plainElem Try.prog 2 y = some (yd, yp)) :
    (binOp .neq 2 x y).run Try.prog W = .ok (.bool (!eqLit xd yd)) W ∧ ∀ (a b : Operand), (eqGuard .neq 2 a b x y).run Try.prog W = .ok () W := by
  obtain ⟨a, rfl, h1, _⟩ := plainElem_int_inv Try.underlying2 hx
  obtain ⟨b, rfl, h2, _⟩ := plainElem_int_inv Try.underlying2 hy
  obtain rfl : xd = .lit (.int .i64 a) := by simpa using (congrArg Prod.fst h1)
  obtain rfl : yd = .lit (.int .i64 b) := by simpa using (congrArg Prod.fst h2)
  refine ⟨?_, fun _ _ => by rw [eqGuard_at_int]; rfl⟩
  simp [go_sem, eqLit, binOp]
  rfl

/-- An answer that is true just if Q. -/
def Says (Q : Prop) (w : World) (e : Ending) (w' : World) : Prop := ∃ r : Bool, e = .returned (.bool r) ∧ (r = true ↔ Q) ∧ Below w.heap.size w w'
theorem Equal_any (b1 b2 n1 n2 : Nat) (f1 f2 : Int → Int) (w : World) (h1 : MapF w b1 n1 f1 (nz f1)) (h2 : MapF w b2 n2 f2 (nz f2)) :
    Calls Try.prog 61 #[.map (some b1), .map (some b2)] w (Says (∀ x, W64 x → f1 x = f2 x) w) := by
  obtain ⟨D1, o1, a1, s1⟩ := h1
  obtain ⟨D2, o2, a2, s2⟩ := h2
  have hc : Calls Try.prog 61 #[.map (some b1), .map (some b2)] w fun e w' => e = .returned (.bool (Lib.equalFuncD eqLit D1 D2)) ∧ w.grownBy w' none :=
    AnyEq.maps_Equal Try.equalA lawI (plainElem Try.prog 2) (plainElem Try.prog 2) eqLit b1 b2 n1 n2 D1 D2 w o1 o2 (.int .i64 0) zeroI (.lit (.int .i64 0)) [] (plainElem_int Try.underlying2 (by decide)) neqLit
  exact hc.mono fun e w' ⟨he, hg⟩ => ⟨_, he, equal_iff o1 o2 a1 s1 a2 s2, (Below.refl _ w).grown hg (Nat.le_refl _) (fun k hk => by cases hk)⟩

set_option maxRecDepth 100000 in
set_option maxHeartbeats 2000000 in
theorem Same_ok (A1 A2 : Option Addr) (a b : List (List Int)) (c1 c2 : Nat) (w : World) (h1 : RDice w w.heap.size A1 a) (h2 : RDice w w.heap.size A2 b) (ha : AreDice a) (hb : AreDice b) :
    Calls Try.prog 26 #[.slice A1 a.length c1, .slice A2 b.length c2] w fun e w' => e = .returned (.tuple #[.bool (sameB a b), .int .i64 0]) ∧ Below w.heap.size w w' := by
  have H1 := Lib.hid (fun (W : World) (hb : Below w.heap.size w W) => (show RDice W W.heap.size A1 a from (h1.below hb).more hb.size))
  have H2 := Lib.hid (fun (W : World) (hb : Below w.heap.size w W) => (show RDice W W.heap.size A2 b from (h2.below hb).more hb.size))
  have l1 := ha.len
  have l2 := hb.len
  have HA := Lib.hid ha
  have HB := Lib.hid hb
  have HZ1 := Lib.hid (checkL_zero ha)
  have HZ2 := Lib.hid (checkL_zero hb)
  clear h1 h2 ha hb
  go_enter Try.func26, Try.ntmps26
  go_wp2_with fail
  refine (check_any A1 a c1 _ w (H1.out _ (Below.refl _ _)) (by omega) (fun d h => by have := (HA.out.die d h).ok.1; omega)).mono ?_
  rintro e w1 ⟨rfl, n, hw1⟩
  rw [HZ1.out]
  have HW1 := Lib.hid (show Below w.heap.size w w1 by rw [hw1]; exact Below.drewN_ (Below.refl _ _) n)
  clear hw1
  go_wp2_with fail
  refine (check_any A2 b c2 _ w1 (H2.out _ HW1.out) (by omega) (fun d h => by have := (HB.out.die d h).ok.1; omega)).mono ?_
  rintro e w2 ⟨rfl, n2, hw2⟩
  rw [HZ2.out]
  have HW2 := Lib.hid (show Below w.heap.size w w2 by rw [hw2]; exact Below.drewN_ HW1.out n2)
  clear hw2 HW1
  go_wp2_with fail
  refine (waysOf_any A1 a c1 w2 (H1.out _ HW2.out) l1 (fun d h => (HA.out.die d h).ok)).mono ?_
  rintro e w3 ⟨m1, rfl, hm1, hf1, hb3⟩
  have HM1 := Lib.hid hf1
  have HW3 := Lib.hid (keepC HW2.out hb3)
  clear hf1 hb3 HW2
  go_wp2_with fail
  refine (waysOf_any A2 b c2 w3 (H2.out _ HW3.out) l2 (fun d h => (HB.out.die d h).ok)).mono ?_
  rintro e w4 ⟨m2, rfl, hm2, hf2, hb4⟩
  have HM14 := Lib.hid (HM1.out.kept (bg hb4) (by simp))
  have HM2 := Lib.hid hf2
  have HW4 := Lib.hid (keepC HW3.out hb4)
  clear hf2 hb4 HW3 HM1
  go_wp2_with fail
  refine (Equal_any m1 m2 _ _ _ _ w4 HM14.out HM2.out).mono ?_
  rintro e w5 ⟨r, rfl, hr, hb5⟩
  have HW5 := Lib.hid (keepC HW4.out hb5)
  have HE := Lib.hid (show r = sameB a b by
    rw [Bool.eq_iff_iff, hr, sameB_iff HA.out HB.out])
  clear hr hb5
  go_wp2_with fail
  refine bodyPost_ret (v := .tuple #[.bool r, .int .i64 0]) (by simp [results, Try.results26, go_sem]) rfl ⟨by rw [HE.out], HW5.out⟩

/-- Two rows of numbers, compared. -/
def rowTo (f1 f2 : Int → Int) (k : Nat) : Bool := (List.range k).all fun s : Nat => f1 s == f2 s
def sameRow (n1 n2 : Nat) (f1 f2 : Int → Int) : Bool := decide (n1 = n2) && rowTo f1 f2 n1
theorem rowTo_succ (f1 f2 : Int → Int) (k : Nat) : rowTo f1 f2 (k + 1) = (rowTo f1 f2 k && (f1 k == f2 k)) := by simp [rowTo, List.range_succ]
theorem rowTo_not {f1 f2 : Int → Int} {k n : Nat} (hk : k < n) (h : (f1 k == f2 k) = false) : rowTo f1 f2 n = false := by
  unfold rowTo
  rw [List.all_eq_false]
  exact ⟨k, List.mem_range.2 hk, by rw [h]; simp⟩

set_option maxRecDepth 100000 in
set_option maxHeartbeats 1000000 in
theorem RSame_any (g1 g2 n1 n2 : Nat) (f1 f2 : Int → Int) (w : World) (h1 : Box w g1 2 (rowW n1 f1)) (h2 : Box w g2 2 (rowW n2 f2)) (hn1 : n1 ≤ 1000) (hn2 : n2 ≤ 1000) :
    Calls Try.prog 40 #[.slice (some ⟨g1, 0, none⟩) n1 n1, .slice (some ⟨g2, 0, none⟩) n2 n2] w fun e w' => e = .returned (.bool (sameRow n1 n2 f1 f2)) ∧ ∃ n, w' = w.drewN n := by
  have H1 := Lib.hid h1
  have H2 := Lib.hid h2
  clear h1 h2
  by_cases hn : n1 = n2
  · have HR := Lib.hid (show sameRow n1 n2 f1 f2 = rowTo f1 f2 n1 by unfold sameRow; rw [decide_eq_true hn, Bool.true_and])
    subst hn
    rw [HR.out]
    go_enter Try.func40, Try.ntmps40
    go_wp2_with fail
    go_loopg [5] n1 (fun g i wx => ∃ k : Nat, k + g = n1 ∧ i = .int .i64 k ∧ Hid (rowTo f1 f2 k = true) ∧ Hid (∃ n, w.drewN n = wx))
    case atStart => exact ⟨0, by omega, rfl, Lib.hid rfl, Lib.hid ⟨0, rfl⟩⟩
    case round =>
      obtain ⟨k, hk, rfl, HF, HW⟩ := hrel
      have HF2 := HF
      obtain ⟨n0, hn0⟩ := HW.out
      clear HF HW
      subst hn0
      cases gk with
      | zero =>
        obtain rfl : k = n1 := by omega
        go_wp2_with fail
        go_ret
        exact ⟨ret_bool HF2.out.symm, n0, rfl⟩
      | succ g =>
        have hk1 : (k : Int) < (n1 : Int) := by omega
        have hk0 : (0 : Int) ≤ (k : Int) := by omega
        have c1 := (H1.out.cell k).trans (rowW_at (by omega))
        have c2 := (H2.out.cell k).trans (rowW_at (by omega))
        obtain ⟨x, hx⟩ : ∃ x, f1 (k : Int) = x := ⟨_, rfl⟩
        obtain ⟨y, hy⟩ : ∃ y, f2 (k : Int) = y := ⟨_, rfl⟩
        have HS := Lib.hid (rowTo_succ f1 f2 k)
        have HN := Lib.hid (fun h => rowTo_not (f1 := f1) (f2 := f2) (k := k) (n := n1) (by omega) h)
        rw [hx] at c1 HS HN
        rw [hy] at c2 HS HN
        clear hx hy
        by_cases he : x = y
        · subst he
          have hb1 : (x == x) = true := by simp
          have hb2 : (x != x) = false := by simp
          go_wp2_with fail
          go_quiet (fail)
          clear hb1 hb2
          go_wp2_with fail
          go_roundg g
          case measure => omega
          case rel => exact ⟨k + 1, by omega, by go_num, Lib.hid (by rw [HS.out, HF2.out]; simp), Lib.hid ⟨n0 + nq, by simp⟩⟩
        · have hb1 : (x == y) = false := by rw [beq_eq_false_iff_ne]; exact he
          have hb2 : (x != y) = true := by simp [bne, hb1]
          have HNN := Lib.hid (HN.out hb1)
          clear he
          go_wp2_with fail
          go_quiet (fail)
          clear hb1 hb2
          go_wp2_with fail
          go_ret
          exact ⟨ret_bool HNN.out.symm, n0 + nq, by simp⟩
  · have HR := Lib.hid (show sameRow n1 n2 f1 f2 = false by unfold sameRow; rw [decide_eq_false hn, Bool.false_and])
    have hb1 : ((n1 : Int) != (n2 : Int)) = true := by
      have : ((n1 : Int) == (n2 : Int)) = false := by rw [beq_eq_false_iff_ne]; omega
      simp [bne, this]
    have hb2 : ¬ ((n1 : Int) = (n2 : Int)) := by omega
    go_enter Try.func40, Try.ntmps40
    go_wp2_with fail
    go_ret
    exact ⟨ret_bool HR.out.symm, 0, rfl⟩

theorem top_sum {ds : List (List Int)} (hd : ∀ d ∈ ds, IsDie d) : ∀ k, k ≤ ds.length → (maxW (ds.take k) : Int) ∈ allSums (ds.take k)
  | 0, _ => by simp [maxW, allSums]
  | k + 1, h => by
    have hget : ds[k]? = some ds[k] := List.getElem?_eq_getElem (by omega)
    have e : allSums (ds.take (k + 1)) = stepL (allSums (ds.take k)) ds[k] := by
      unfold allSums
      rw [List.take_succ_eq_append_getElem (by omega), List.foldl_append]
      rfl
    have hdie := hd ds[k] (List.getElem_mem _)
    rw [e, maxW_succ hget]
    unfold stepL
    rw [List.mem_flatMap]
    refine ⟨_, top_sum hd k (by omega), List.mem_map.2 ⟨ds[k].getD (ds[k].length - 1) 0, ?_, ?_⟩⟩
    · have hn := hdie.ne
      have : ds[k].getD (ds[k].length - 1) 0 = ds[k][ds[k].length - 1] := by simp [List.getD, show ds[k].length - 1 < ds[k].length by omega]
      rw [this]
      exact List.getElem_mem _
    · rw [(die_last hdie).1]
      omega
theorem top_way {ds : List (List Int)} (hd : ∀ d ∈ ds, IsDie d) : waysF ds (maxW ds) ≠ 0 := by
  have h := top_sum hd ds.length (Nat.le_refl _)
  rw [List.take_length] at h
  rw [ways_count]
  have := List.count_pos_iff.2 h
  omega
/-- The rows of ways are the same just if the sums are. -/
theorem same_rows {a b : List (List Int)} (ha : AreDice a) (hb : AreDice b) : sameRow (maxW a + 1) (maxW b + 1) (waysF a) (waysF b) = sameB a b := by
  have hz : ∀ {ds : List (List Int)}, AreDice ds → ∀ y, waysF ds y ≠ 0 → 0 ≤ y ∧ y < ((maxW ds + 1 : Nat) : Int) := fun hd y h => by
    have := waysF_max _ hd.die _ (Nat.le_refl _) y (by rw [List.take_length]; exact h)
    rwa [List.take_length] at this
  have hm : ∀ {ds : List (List Int)}, AreDice ds → maxW ds ≤ 360 := fun hd => by
    have := maxW_le hd.die
    have := hd.len
    omega
  rw [Bool.eq_iff_iff, sameB_iff ha hb]
  unfold sameRow rowTo
  rw [Bool.and_eq_true, decide_eq_true_eq, List.all_eq_true]
  constructor
  · rintro ⟨hn, hall⟩ x _
    by_cases hx : 0 ≤ x ∧ x < ((maxW a + 1 : Nat) : Int)
    · obtain ⟨k, rfl⟩ := Int.eq_ofNat_of_zero_le hx.1
      have := hall k (List.mem_range.2 (by omega))
      exact beq_iff_eq.1 this
    · have h1 : waysF a x = 0 := Classical.byContradiction fun h => hx (hz ha x h)
      have h2 : waysF b x = 0 := Classical.byContradiction fun h => hx (by have := hz hb x h; omega)
      rw [h1, h2]
  · intro h
    have m1 := hm ha
    have m2 := hm hb
    have t1 := hz hb (maxW a) (by rw [← h (maxW a) ⟨by omega, by omega⟩]; exact top_way ha.die)
    have t2 := hz ha (maxW b) (by rw [h (maxW b) ⟨by omega, by omega⟩]; exact top_way hb.die)
    refine ⟨by omega, fun s hs => ?_⟩
    have := List.mem_range.1 hs
    exact beq_iff_eq.2 (h s ⟨by omega, by omega⟩)

theorem ways_reverse : ∀ ds : List (List Int), waysF ds.reverse = waysF ds
  | [] => rfl
  | d :: r => by
    funext t
    have e1 : waysF (d :: r).reverse t = conv (waysF r) d t := by
      rw [List.reverse_cons]
      show (r.reverse ++ [d]).foldl conv one0 t = _
      rw [List.foldl_append]
      show conv (waysF r.reverse) d t = _
      rw [ways_reverse r]
    have e2 : waysF (d :: r) t = ((allSums [d]).map fun s => waysF r (t - s)).sum := ways_both [d] r t
    rw [e1, e2, conv_sum]
    have e3 : allSums [d] = d.map fun x => 0 + x := by simp [allSums, stepL]
    rw [e3, List.map_map]
    congr 1
    refine List.map_congr_left fun x _ => ?_
    show waysF r (t - x) = waysF r (t - (0 + x))
    rw [Int.zero_add]
theorem dice_reverse {ds : List (List Int)} (h : AreDice ds) : AreDice ds.reverse := ⟨by rw [List.length_reverse]; exact h.pos, by rw [List.length_reverse]; exact h.len, fun d hd => h.die d (List.mem_reverse.1 hd)⟩
theorem same_reverse {ds : List (List Int)} (h : AreDice ds) : sameB ds ds.reverse = true := by
  rw [sameB_iff h (dice_reverse h), ways_reverse]
  exact fun _ _ => rfl

end Go.Proofs.Ytkkholagmjcgiaa
