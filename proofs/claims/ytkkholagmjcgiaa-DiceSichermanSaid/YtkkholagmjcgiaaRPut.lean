/- The functions less and equal of the reference: whether a list comes before another one, and whether two lists are equal; they only read. · The function put of the reference: two dice put into a rising list, if they aren't there; what was there stays. -/
import Derived.Test.YtkkholagmjcgiaaTwinsL
import Derived.Test.YtkkholagmjcgiaaInts
import Derived.Test.YtkkholagmjcgiaaBeats2
import Derived.Test.YtkkholagmjcgiaaRPairs
import Derived.Deep.CutBlock
import Derived.Test.YtkkholagmjcgiaaOwn
namespace Go.Proofs.Ytkkholagmjcgiaa
open Go.RowKit

theorem drop_at {l : List Int} {k : Nat} {x : Int} (h : l[k]? = some x) : l.drop k = x :: l.drop (k + 1) := by
  obtain ⟨hk, rfl⟩ := List.getElem?_eq_some_iff.1 h
  exact List.drop_eq_getElem_cons hk

set_option maxHeartbeats 1000000 in
theorem less_any (A A2 : Option Addr) (a b : List Int) (c c2 B : Nat) (w : World) (ha : RInts w B A a) (hb : RInts w B A2 b) (hab : a.length ≤ b.length) (hlb : b.length ≤ 1000) :
    Calls Try.prog 123 #[.slice A a.length c, .slice A2 b.length c2] w fun e w' => e = .returned (.bool (befL a b)) ∧ ∃ n, w' = w.drewN n := by
  have HA := Lib.hid ha
  have HB := Lib.hid hb
  clear ha hb
  go_enter Try.func123, Try.ntmps123
  go_wp2_with fail
  go_loopg [5] a.length (fun g i wx => ∃ (k : Nat), k + g = a.length ∧ i = .int .i64 k ∧ Hid (befL (a.drop k) (b.drop k) = befL a b) ∧ Hid (∃ n, w.drewN n = wx))
  case atStart => exact ⟨0, by omega, rfl, Lib.hid rfl, Lib.hid ⟨0, rfl⟩⟩
  case round =>
    obtain ⟨k, hk, rfl, HF, HW⟩ := hrel
    have HF2 := HF
    have HW2 := HW
    clear HF HW
    obtain ⟨n0, hn0⟩ := HW2.out
    cases gk with
    | zero =>
      obtain rfl : k = a.length := by omega
      have HE := Lib.hid (show befL a b = false by rw [← HF2.out, List.drop_length]; rfl)
      clear HF2 HW2
      go_wp2_with fail
      go_ret
      exact ⟨ret_bool HE.out.symm, n0, hn0.symm⟩
    | succ g =>
      have hka : k < a.length := by omega
      have hkb : k < b.length := by omega
      obtain ⟨g1, o1, x, hA1, hb1, hx, hcx⟩ := (HA.out.drewN n0).at_ (k := k) hka
      subst hA1
      obtain ⟨g2, o2, y, hA2, hb2, hy, hcy⟩ := (HB.out.drewN n0).at_ (k := k) hkb
      subst hA2
      have HS := Lib.hid (show befL (a.drop k) (b.drop k) = if x = y then befL (a.drop (k + 1)) (b.drop (k + 1)) else decide (x < y) by
        rw [drop_at hx, drop_at hy]
        rfl)
      rw [hn0] at hcx hcy
      have hka1 : (k : Int) < (a.length : Int) := by omega
      have hkb1 : (k : Int) < (b.length : Int) := by omega
      clear hx hy hn0
      by_cases hxy : x = y
      · subst hxy
        have hne : (x != x) = false := by simp
        have HS1 := Lib.hid (show befL (a.drop (k + 1)) (b.drop (k + 1)) = befL a b by rw [← HF2.out, HS.out, if_pos rfl])
        go_wp2_with fail
        go_quiet (fail)
        clear hne
        go_wp2_with fail
        go_roundg g
        case measure => omega
        case rel => exact ⟨k + 1, by omega, by go_num, HS1, Lib.hid (drew_more HW2.out _)⟩
      · have hne0 : (x == y) = false := by rw [beq_eq_false_iff_ne]; exact hxy
        have hne : (x != y) = true := by simp [bne, hne0]
        have HE := Lib.hid (show befL a b = decide (x < y) by rw [← HF2.out, HS.out, if_neg hxy])
        clear hxy HS
        go_wp2_with fail
        go_quiet (fail)
        go_wp2_with fail
        go_quiet (fail)
        clear hne hne0
        go_wp2_with fail
        go_ret
        obtain ⟨n1, hn1⟩ := HW2.out
        refine ⟨ret_bool HE.out.symm, ?_⟩
        rw [← hn1, World.drewN_drewN, World.drewN_drewN]
        exact ⟨_, rfl⟩

theorem eq_of_lens {a b : List Int} (h : a.length = b.length) : decide (a = b) = (!befL a b && !befL b a) := by
  rw [Bool.eq_iff_iff, decide_eq_true_eq, Bool.and_eq_true, Bool.not_eq_true', Bool.not_eq_true']
  constructor
  · rintro rfl
    exact ⟨befL_irrefl a, befL_irrefl a⟩
  · rintro ⟨h1, h2⟩
    exact befL_total h h1 h2

set_option maxHeartbeats 1000000 in
theorem equal_any (A A2 : Option Addr) (a b : List Int) (c c2 B : Nat) (w : World) (ha : RInts w B A a) (hb : RInts w B A2 b) (hla : a.length ≤ 1000) (hlb : b.length ≤ 1000) :
    Calls Try.prog 124 #[.slice A a.length c, .slice A2 b.length c2] w fun e w' => e = .returned (.bool (decide (a = b))) ∧ ∃ n, w' = w.drewN n := by
  by_cases hl : a.length = b.length
  · have HL1 := Lib.hid (fun n => less_any A A2 a b c c2 B (w.drewN n) (ha.drewN n) (hb.drewN n) (by omega) hlb)
    have HL2 := Lib.hid (fun n => less_any A2 A b a c2 c B (w.drewN n) (hb.drewN n) (ha.drewN n) (by omega) hla)
    have HE := Lib.hid (eq_of_lens hl)
    have hlt : ((a.length : Int) == (b.length : Int)) = true := by rw [hl]; simp
    obtain ⟨p, hp⟩ : ∃ p, befL a b = p := ⟨_, rfl⟩
    obtain ⟨q, hq⟩ : ∃ q, befL b a = q := ⟨_, rfl⟩
    rw [hp] at HL1
    rw [hq] at HL2
    rw [hp, hq] at HE
    clear ha hb hl hp hq
    rw [HE.out]
    cases p with
    | true =>
      go_enter Try.func124, Try.ntmps124
      go_wp2_with fail
      refine (HL1.out 0).mono ?_
      rintro e w' ⟨rfl, n, rfl⟩
      go_wp2_with fail
      go_ret
      exact ⟨rfl, n, rfl⟩
    | false =>
      go_enter Try.func124, Try.ntmps124
      go_wp2_with fail
      refine (HL1.out 0).mono ?_
      rintro e w' ⟨rfl, n, rfl⟩
      go_wp2_with fail
      refine (HL2.out n).mono ?_
      rintro e w' ⟨rfl, n2, rfl⟩
      go_wp2_with fail
      go_ret
      exact ⟨rfl, n + n2, by simp⟩
  · have hlt : ((a.length : Int) == (b.length : Int)) = false := by rw [beq_eq_false_iff_ne]; omega
    have HE := Lib.hid (show decide (a = b) = false by
      rw [decide_eq_false_iff_not]
      rintro rfl
      exact hl rfl)
    clear hl ha hb
    go_enter Try.func124, Try.ntmps124
    go_wp2_with fail
    go_ret
    exact ⟨ret_bool HE.out.symm, 0, rfl⟩

end Go.Proofs.Ytkkholagmjcgiaa

namespace Go.Proofs.Ytkkholagmjcgiaa
open Go.RowKit

/-- The cells of pairs of slices. -/
def flatV (vs : List (Value × Value)) : List Value := vs.flatMap fun p => [p.1, p.2]
theorem flatV_len (vs : List (Value × Value)) : (flatV vs).length = 2 * vs.length := by
  unfold flatV
  induction vs with
  | nil => rfl
  | cons p vs ih => rw [List.flatMap_cons, List.length_append, ih, List.length_cons]; simp; omega
theorem flatV_app (a b : List (Value × Value)) : flatV (a ++ b) = flatV a ++ flatV b := by simp [flatV]
theorem flatV_take : ∀ (vs : List (Value × Value)) (k : Nat), flatV (vs.take k) = (flatV vs).take (2 * k)
  | [], k => by simp [flatV]
  | p :: vs, 0 => by simp [flatV]
  | p :: vs, k + 1 => by
    have h := flatV_take vs k
    unfold flatV at h ⊢
    rw [List.take_succ_cons, List.flatMap_cons, List.flatMap_cons, h, show 2 * (k + 1) = 2 * k + 2 by omega]
    rfl
theorem flatV_drop : ∀ (vs : List (Value × Value)) (k : Nat), flatV (vs.drop k) = (flatV vs).drop (2 * k)
  | [], k => by simp [flatV]
  | p :: vs, 0 => by simp [flatV]
  | p :: vs, k + 1 => by
    have h := flatV_drop vs k
    unfold flatV at h ⊢
    rw [List.drop_succ_cons, List.flatMap_cons, h, show 2 * (k + 1) = 2 * k + 2 by omega]
    rfl

/-- A list of pairs of dice in a row of one's own; the dice are only read. -/
structure PV (w : World) (v : Value) (vs : List (Value × Value)) (F : List (List Int × List Int)) : Prop where
  len : vs.length = F.length
  own : w.ownsRow 0 77 2 v F.length (flatV vs)
  at_ : ∀ (i : Nat) (p : Value × Value) (q : List Int × List Int), vs[i]? = some p → F[i]? = some q → RDie w w.heap.size p.1 q.1 ∧ RDie w w.heap.size p.2 q.2
def OutR (w : World) (v : Value) (F : List (List Int × List Int)) : Prop := ∃ vs, PV w v vs F
theorem OutR.nil_ (w : World) : OutR w (.slice none 0 0) [] := ⟨[], rfl, ⟨by simp [flatV], .inl ⟨rfl, rfl⟩⟩, fun i p q h1 h2 => by simp at h1⟩
theorem OutR.below {w w' : World} {v : Value} {F : List (List Int × List Int)} (h : OutR w v F) (hb : Below w.heap.size w w') : OutR w' v F := by
  obtain ⟨vs, h1, h2, h3⟩ := h
  exact ⟨vs, h1, own_below h2 hb, fun i p q hp hq => ⟨((h3 i p q hp hq).1.keep fun b o hlt => hb.cell (p := ⟨b, o, none⟩) hlt).more hb.size, ((h3 i p q hp hq).2.keep fun b o hlt => hb.cell (p := ⟨b, o, none⟩) hlt).more hb.size⟩⟩
theorem PV.reads {w : World} {v : Value} {vs : List (Value × Value)} {F : List (List Int × List Int)} (h : PV w v vs F) (hpos : 1 ≤ F.length) : ∃ g k, v = .slice (some ⟨g, 0, none⟩) F.length k ∧ F.length ≤ k ∧ k ≤ maxLen ∧ g < w.heap.size ∧ (∀ j u, (flatV vs)[j]? = some u → w.cell? ⟨g, j, none⟩ = some u) ∧ RPairs w w.heap.size (some ⟨g, 0, none⟩) F := by
  obtain ⟨hl, h1, h3⟩ := h
  have h10 := h1
  obtain ⟨g, k, e, _, hg, hc⟩ := own2_cells h1 hpos
  have hcap : F.length ≤ k ∧ k ≤ maxLen := by
    rcases h10.2 with ⟨_, hn⟩ | ⟨g', cap, cur, e1, _, _, h5, h6, _⟩
    · omega
    · rw [e] at e1
      cases e1
      exact ⟨h5, h6⟩
  refine ⟨g, k, e, hcap.1, hcap.2, hg, hc, fun i q hq => ?_⟩
  have hi : i < vs.length := by rw [hl]; exact (List.getElem?_eq_some_iff.1 hq).1
  have hp : vs[i]? = some vs[i] := List.getElem?_eq_getElem hi
  obtain ⟨⟨ax, cx, e1, hx, rx⟩, ay, cy, e2, hy, ry⟩ := h3 i _ q hp hq
  have h5 : (flatV vs)[i * 2]? = some vs[i].1 ∧ (flatV vs)[i * 2 + 1]? = some vs[i].2 := by
    have h6 := flatV_drop vs i
    rw [List.drop_eq_getElem_cons hi] at h6
    have h7 : ∀ j, ((flatV vs).drop (2 * i))[j]? = (flatV vs)[i * 2 + j]? := fun j => by rw [List.getElem?_drop, Nat.mul_comm]
    have h8 := h7 0
    have h9 := h7 1
    rw [← h6] at h8 h9
    exact ⟨h8.symm, h9.symm⟩
  exact ⟨g, ax, cx, ay, cy, rfl, hg, by rw [hc _ _ h5.1, e1], by rw [hc _ _ h5.2, e2], hx, hy, rx, ry⟩
theorem PV.one {w : World} {v : Value} {vs : List (Value × Value)} {F : List (List Int × List Int)} (h : PV w v vs F) : ∀ u ∈ flatV vs, u.oneCell' = true := fun u hu => by
  unfold flatV at hu
  obtain ⟨p, hp, hu⟩ := List.mem_flatMap.1 hu
  obtain ⟨i, hi, rfl⟩ := List.mem_iff_getElem.1 hp
  obtain ⟨⟨_, _, e1, _⟩, _, _, e2, _⟩ := h.at_ i _ _ (List.getElem?_eq_getElem hi) (List.getElem?_eq_getElem (by rw [← h.len]; exact hi))
  simp only [List.mem_cons, List.not_mem_nil, or_false] at hu
  rcases hu with rfl | rfl
  · rw [e1]; rfl
  · rw [e2]; rfl

/-- The append of some pairs of slices. -/
theorem wpList_appP (w : World) {ops : Array Oper} {rest : List Oper} {o : Oper} {a : Act} {Q : Exit → Act → World → Prop} (hg : o.guard = none) (s x : Operand)
    (hop : o.op = Op.call { callee := Callee.builtin Builtin.append, args := #[s, x], argTypes := #[50, 50] }) {v : Value} {n : Nat} {vs : List (Value × Value)} (h : w.ownsRow 0 77 2 v n (flatV vs)) (hs : a.eval s = v)
    (ad : Addr) (m c : Nat) (ys : List (Value × Value)) (hx : a.eval x = .slice (some ad) m c) (hm : ys.length = m) (hc : ∀ (j : Nat) (u : Value), (flatV ys)[j]? = some u → w.cell? (ad.add j) = some u) (h1 : ∀ u ∈ flatV ys, u.oneCell' = true) (hl : n + m ≤ 1000000)
    (hK : ∀ (v' : Value) (w' : World), w'.ownsRow 0 77 2 v' (n + m) (flatV (vs ++ ys)) → w.grownBy w' v.ownBlock → (v'.ownBlock = v.ownBlock ∨ v'.ownBlock = some w.heap.size) → wpList Try.prog ops Q rest (a.put o.dst v') w') :
    wpList Try.prog ops Q (o :: rest) a w := by
  obtain ⟨i0, hi, hz0, hz1, hz2⟩ := info_parts Try.info77
  have hb : (n + m) * 48 ≤ 140737488355328 := Nat.le_trans (Nat.mul_le_mul_right 48 hl) (by decide)
  refine wpList_append_own_at w hg s x 50 hop 0 77 i0 (.agg #[.slice none 0 0, .slice none 0 0]) 2 48 Try.underlying50 hi hz0 hz1 hz2 rfl (by omega) v n (flatV vs) hs h ad m c (flatV ys) hx (by rw [flatV_len, hm, Nat.mul_comm]) hc h1 (by unfold maxLen; omega) hb (Nat.zero_le _) fun v' w' h2 h3 _ h4 => ?_
  refine hK v' w' ?_ h3 h4
  rw [flatV_app]
  exact h2
theorem run_appP0 {w : World} {v : Value} {n : Nat} {xs : List Value} (h : w.ownsRow 0 77 2 v n xs) (ty : TypeId) (c : Nat) : (Builtin.append_ #[50, 50] ty #[v, .slice none 0 c]).run Try.prog w = .ok v w := by
  have hz := Try.sizeOf77
  rcases h.2 with ⟨rfl, _⟩ | ⟨g, cap, cur, rfl, _, _, hnc, _⟩
  · simp [Builtin.append_, run_underlying Try.underlying50, hz, Builtin.lenOf, Builtin.firstCells, Result.andThen, go_sem]
  · simp [Builtin.append_, run_underlying Try.underlying50, hz, Builtin.lenOf, Builtin.firstCells, Result.andThen, go_sem, hnc, storeCells]
theorem wpList_appP0 (w : World) {ops : Array Oper} {rest : List Oper} {o : Oper} {a : Act} {Q : Exit → Act → World → Prop} (hg : o.guard = none) (s x : Operand)
    (hop : o.op = Op.call { callee := Callee.builtin Builtin.append, args := #[s, x], argTypes := #[50, 50] }) {v : Value} {n : Nat} {xs : List Value} (h : w.ownsRow 0 77 2 v n xs) (hs : a.eval s = v)
    (c : Nat) (hx : a.eval x = .slice none 0 c) (hK : wpList Try.prog ops Q rest (a.put o.dst v) w) : wpList Try.prog ops Q (o :: rest) a w := by
  refine wpList_plain hg fun K hK2 => ?_
  have hrun := run_appP0 h o.type c
  unfold Oper.wp
  simp [execOp, hop, resolve, invoke, builtin, hs, hx, hrun, Result.andThen]
  exact hK2 _ _ hK

theorem ltP_eq (p q : List Int × List Int) : ltP p q = (befL p.1 q.1 || (decide (p.1 = q.1) && befL p.2 q.2)) := by
  unfold ltP
  congr 2
  rw [Bool.eq_iff_iff, beq_iff_eq, decide_eq_true_eq]
theorem putK_of {x : List Int × List Int} {F : List (List Int × List Int)} {k : Nat} (hk : k ≤ F.length) (h1 : ∀ j q, j < k → F[j]? = some q → ltP q x = true) (h2 : k < F.length → ∀ q, F[k]? = some q → ltP q x = false) : putK x F = k := by
  unfold putK
  rcases Nat.eq_or_lt_of_le hk with e | hlt
  · subst e
    refine Nat.le_antisymm List.findIdx_le_length (Nat.le_of_not_lt fun h => ?_)
    have h3 := List.findIdx_getElem (p := fun p => !ltP p x) (xs := F) (w := h)
    have h4 := h1 _ _ h (List.getElem?_eq_getElem h)
    rw [h4] at h3
    cases h3
  · refine (List.findIdx_eq hlt).2 ⟨?_, fun j hj => ?_⟩
    · rw [h2 hlt _ (List.getElem?_eq_getElem hlt)]
      rfl
    · rw [h1 j _ hj (List.getElem?_eq_getElem (by omega))]
      rfl

theorem wpList_appPA (w : World) {ops : Array Oper} {rest : List Oper} {o : Oper} {a : Act} {Q : Exit → Act → World → Prop} (hg : o.guard = none) (s x : Operand)
    (hop : o.op = Op.call { callee := Callee.builtin Builtin.append, args := #[s, x], argTypes := #[50, 50] }) {v : Value} {n : Nat} {vs : List (Value × Value)} (h : w.ownsRow 0 77 2 v n (flatV vs)) (hs : a.eval s = v)
    (A : Option Addr) (m c : Nat) (ys : List (Value × Value)) (hx : a.eval x = .slice A m c) (hm : ys.length = m) (hc : ∀ (j : Nat) (u : Value), (flatV ys)[j]? = some u → ∃ ad : Addr, A = some ad ∧ w.cell? (ad.add j) = some u) (h1 : ∀ u ∈ flatV ys, u.oneCell' = true) (hl : n + m ≤ 1000000)
    (hK : ∀ (v' : Value) (w' : World), w'.ownsRow 0 77 2 v' (n + m) (flatV (vs ++ ys)) → w.grownBy w' v.ownBlock → (v'.ownBlock = v.ownBlock ∨ v'.ownBlock = some w.heap.size) → wpList Try.prog ops Q rest (a.put o.dst v') w') :
    wpList Try.prog ops Q (o :: rest) a w := by
  cases hA : A with
  | some ad =>
    refine wpList_appP w hg s x hop h hs ad m c ys (by rw [hx, hA]) hm (fun j u hu => ?_) h1 hl hK
    obtain ⟨ad', e, hc⟩ := hc j u hu
    rw [hA] at e
    cases e
    exact hc
  | none =>
    have h0 : ys = [] := by
      cases ys with
      | nil => rfl
      | cons p ys =>
        obtain ⟨_, e, _⟩ := hc 0 p.1 rfl
        rw [hA] at e
        cases e
    subst h0
    obtain rfl : 0 = m := hm
    refine wpList_appP0 w hg s x hop h hs c (by rw [hx, hA]) ?_
    exact hK v w (by simpa using h) (World.grownBy.refl w _) (.inl rfl)
theorem cells_nil {w : World} {A : Option Addr} {vs : List (Value × Value)} (h : vs = []) : ∀ (j : Nat) (u : Value), (flatV vs)[j]? = some u → ∃ ad : Addr, A = some ad ∧ w.cell? (ad.add j) = some u := fun j u hu => by
  subst h
  simp [flatV] at hu
theorem cells_from {w : World} {g k n : Nat} {vs : List (Value × Value)} (hc : ∀ j u, (flatV vs)[j]? = some u → w.cell? ⟨g, j, none⟩ = some u) (hn : 2 * k = n) : ∀ (j : Nat) (u : Value), (flatV (vs.drop k))[j]? = some u → ∃ ad : Addr, some (⟨g, n, none⟩ : Addr) = some ad ∧ w.cell? (ad.add j) = some u := fun j u hu => by
  refine ⟨_, rfl, ?_⟩
  rw [Go.WideShapes.add_plain, ← hn]
  rw [flatV_drop, List.getElem?_drop] at hu
  exact hc _ _ hu
theorem cells_take {w : World} {g k : Nat} {vs : List (Value × Value)} (hc : ∀ j u, (flatV vs)[j]? = some u → w.cell? ⟨g, j, none⟩ = some u) : ∀ (j : Nat) (u : Value), (flatV (vs.take k))[j]? = some u → ∃ ad : Addr, (some (⟨g, 0, none⟩ : Addr)) = some ad ∧ w.cell? (ad.add j) = some u := fun j u hu => by
  refine ⟨_, rfl, ?_⟩
  rw [Go.WideShapes.add_plain, Nat.zero_add]
  rw [flatV_take, List.getElem?_take] at hu
  split at hu
  · exact hc _ _ hu
  · cases hu

/-- The list of which put is handed: nil, if it is empty. -/
structure PutIn (w : World) (v : Value) (F : List (List Int × List Int)) : Prop where
  nil : F = [] → v = .slice none 0 0
  out : OutR w v F
theorem PutIn.below {w w' : World} {v : Value} {F : List (List Int × List Int)} (h : PutIn w v F) (hb : Below w.heap.size w w') : PutIn w' v F := ⟨h.nil, h.out.below hb⟩

/-- The row that three appends lay: a beginning, one pair more, and an end. -/
theorem three_rows {w w3 w4 w5 w6 : World} {v4 v5 v6 s1 s2 : Value} {n k : Nat} {vs : List (Value × Value)} {F : List (List Int × List Int)} {x : List Int × List Int} {o : Obj} (hb3 : Below w.heap.size w w3)
    (hl : vs.length = F.length) (hat : ∀ (i : Nat) (p : Value × Value) (q : List Int × List Int), vs[i]? = some p → F[i]? = some q → RDie w w.heap.size p.1 q.1 ∧ RDie w w.heap.size p.2 q.2) (hx1 : RDie w w.heap.size s1 x.1) (hx2 : RDie w w.heap.size s2 x.2)
    (hk : k ≤ F.length) (h4 : w3.grownBy w4 none) (ha4 : v4.ownBlock = none ∨ v4.ownBlock = some w3.heap.size) (h5 : (w4.alloc o).grownBy w5 v4.ownBlock) (ha5 : v5.ownBlock = v4.ownBlock ∨ v5.ownBlock = some (w4.alloc o).heap.size)
    (h6 : w5.grownBy w6 v5.ownBlock) (hr : w6.ownsRow 0 77 2 v6 n (flatV ((vs.take k ++ [(s1, s2)]) ++ vs.drop k))) (hn : n = F.length + 1) : PutIn w6 v6 (F.take k ++ x :: F.drop k) ∧ Below w.heap.size w w6 := by
  have s3 := hb3.size
  have s4 := h4.size
  have s5 := h5.size
  have e5 : (w4.alloc o).heap.size = w4.heap.size + 1 := by simp
  have hb6 : Below w.heap.size w w6 := (((hb3.grown h4 s3 (fun k hk => by cases hk)).alloc (by omega) o).grown h5 (by omega) (fun k hk => by
    rcases ha4 with h | h <;> rw [h] at hk
    · cases hk
    · have := Option.some.inj hk
      omega)).grown h6 (by omega) (fun k hk => by
    rcases ha5 with h | h <;> rw [h] at hk
    · rcases ha4 with h' | h' <;> rw [h'] at hk
      · cases hk
      · have := Option.some.inj hk
        omega
    · have := Option.some.inj hk
      omega)
  have hlen : (F.take k ++ x :: F.drop k).length = n := by
    rw [List.length_append, List.length_cons, List.length_take, List.length_drop, hn]
    omega
  refine ⟨⟨fun h => absurd h (by simp), vs.take k ++ (s1, s2) :: vs.drop k, ?_, ?_, fun i p q hp hq => ?_⟩, hb6⟩
  · simp [hl]
  · rw [hlen]
    simpa using hr
  · have hkeep : ∀ {u : Value} {d : List Int}, RDie w w.heap.size u d → RDie w6 w6.heap.size u d := fun h => (h.keep fun b o hlt => hb6.cell (p := ⟨b, o, none⟩) hlt).more hb6.size
    have hlt : (vs.take k).length = (F.take k).length := by rw [List.length_take, List.length_take, hl]
    rcases Nat.lt_or_ge i (F.take k).length with h1 | h1
    · rw [List.getElem?_append_left (by omega), List.getElem?_take] at hp hq
      split at hp
      · rename_i h2
        rw [if_pos h2] at hq
        have := hat i p q hp hq
        exact ⟨hkeep this.1, hkeep this.2⟩
      · cases hp
    · rw [List.getElem?_append_right (by omega)] at hp hq
      rw [hlt] at hp
      generalize i - (F.take k).length = j at hp hq
      cases j with
      | zero =>
        obtain rfl := Option.some.inj hp
        obtain rfl := Option.some.inj hq
        exact ⟨hkeep hx1, hkeep hx2⟩
      | succ j =>
        rw [List.getElem?_cons_succ, List.getElem?_drop] at hp hq
        have := hat _ p q hp hq
        exact ⟨hkeep this.1, hkeep this.2⟩

theorem cells_one (w : World) (s1 s2 : Value) : ∀ (j : Nat) (u : Value), (flatV [(s1, s2)])[j]? = some u → ∃ ad : Addr, (some (⟨w.heap.size, 0, none⟩ : Addr)) = some ad ∧ (w.alloc (Obj.cells #[s1, s2] 77)).cell? (ad.add j) = some u := fun j u hu => by
  refine ⟨_, rfl, ?_⟩
  rw [Go.WideShapes.add_plain, Nat.zero_add, (Box.new w 77 #[s1, s2]).cell j]
  simpa [flatV] using hu
theorem put_b5 {w w3 w4 w5 : World} {v4 : Value} {o : Obj} (hb3 : Below w.heap.size w w3) (h4 : w3.grownBy w4 none) (ha4 : v4.ownBlock = none ∨ v4.ownBlock = some w3.heap.size) (h5 : (w4.alloc o).grownBy w5 v4.ownBlock) : Below w.heap.size w w5 := by
  have s3 := hb3.size
  have s4 := h4.size
  have e5 : (w4.alloc o).heap.size = w4.heap.size + 1 := by simp
  exact ((hb3.grown h4 s3 (fun k hk => by cases hk)).alloc (by omega) o).grown h5 (by omega) (fun k hk => by
    rcases ha4 with h | h <;> rw [h] at hk
    · cases hk
    · have := Option.some.inj hk
      omega)

set_option maxRecDepth 100000 in
set_option maxHeartbeats 40000000 in
theorem put_any (n m : Nat) (v : Value) (F : List (List Int × List Int)) (x : List Int × List Int) (a1 a2 : Option Addr) (c1 c2 : Nat) (w : World) (hv : PutIn w v F) (hF : ∀ p ∈ F, p.1.length = n ∧ p.2.length = m) (hx : x.1.length = n ∧ x.2.length = m)
    (h1 : RInts w w.heap.size a1 x.1) (h2 : RInts w w.heap.size a2 x.2) (hc1 : x.1.length ≤ c1) (hc2 : x.2.length ≤ c2) (hn : n ≤ 8 ∧ m ≤ 8) (hl : F.length ≤ 100000) :
    Calls Try.prog 109 #[v, .agg #[.slice a1 x.1.length c1, .slice a2 x.2.length c2]] w fun e w' => ∃ v', e = .returned v' ∧ PutIn w' v' (putL x F) ∧ Below w.heap.size w w' := by
  obtain ⟨w1, hw1⟩ : ∃ w1, w.alloc (Obj.cells #[Value.slice a1 x.1.length c1, Value.slice a2 x.2.length c2] 77) = w1 := ⟨_, rfl⟩
  have hb1 : Below w.heap.size w w1 := by rw [← hw1]; exact (Below.refl _ w).alloc (Nat.le_refl _) _
  have hbx : Box w1 w.heap.size 77 #[Value.slice a1 x.1.length c1, Value.slice a2 x.2.length c2] := by rw [← hw1]; exact Box.new _ _ _
  have cx0 := hbx.cell 0
  have cx1 := hbx.cell 1
  simp only [List.getElem?_toArray, List.getElem?_cons_zero, List.getElem?_cons_succ] at cx0 cx1
  have hwl := hbx.lt
  have HB1 := Lib.hid hb1
  have HX1 := Lib.hid (show RDie w w.heap.size (.slice a1 x.1.length c1) x.1 from ⟨a1, c1, rfl, hc1, h1⟩)
  have HX2 := Lib.hid (show RDie w w.heap.size (.slice a2 x.2.length c2) x.2 from ⟨a2, c2, rfl, hc2, h2⟩)
  have HW1 := Lib.hid hw1
  rcases Nat.eq_zero_or_pos F.length with h0 | hpos
  · obtain rfl : F = [] := List.eq_nil_of_length_eq_zero h0
    obtain rfl := hv.nil rfl
    have HE := Lib.hid (show putL x [] = [] ++ x :: [] by unfold putL; simp)
    have HR0 := Lib.hid (fun (W : World) => show W.ownsRow 0 77 2 (.slice none 0 0) 0 (flatV []) from ⟨by simp [flatV], .inl ⟨rfl, rfl⟩⟩)
    clear hv hF hx h1 h2 hc1 hc2 hl hbx hb1 h0 hw1
    rw [HE.out]
    go_enter Try.func109, Try.ntmps109
    go_wp2_with fail
    rw [HW1.out]
    go_loopg [5] 0 (fun g i wx => g = 0 ∧ i = .int .i64 0 ∧ Hid (∃ k, w1.drewN k = wx))
    case atStart => exact ⟨rfl, rfl, Lib.hid ⟨0, rfl⟩⟩
    case round =>
      obtain ⟨rfl, rfl, HW⟩ := hrel
      obtain ⟨k0, hk0⟩ := HW.out
      subst hk0
      go_wp2_with fail
      go_quiet (fail)
      obtain ⟨w2, hw2⟩ : ∃ w2, (w1.drewN k0).drewN nq = w2 := ⟨_, rfl⟩
      rw [hw2]
      go_wp2_with fail
      go_quiet (fail)
      obtain ⟨w3, hw3⟩ : ∃ w3, w2.drewN nq = w3 := ⟨_, rfl⟩
      rw [hw3]
      have hx30 : w3.cell? ⟨w.heap.size, 0, none⟩ = some (.slice a1 x.1.length c1) := by rw [← hw3, ← hw2]; simpa using cx0
      have hx31 : w3.cell? ⟨w.heap.size, 1, none⟩ = some (.slice a2 x.2.length c2) := by rw [← hw3, ← hw2]; simpa using cx1
      have HB3 := Lib.hid (show Below w.heap.size w w3 by rw [← hw3, ← hw2]; exact Below.drewN_ (Below.drewN_ (Below.drewN_ HB1.out _) _) _)
      have hw3l : w.heap.size < w3.heap.size := by rw [← hw3, ← hw2]; simpa using hwl
      clear hw2 hw3 cx0 cx1
      go_wp2_with (first
        | (at_builtin; (refine wpList_appPA _ rfl _ _ rfl (HR0.out w3) rfl none 0 0 [] rfl rfl (fun j u hu => by simp [flatV] at hu) (by simp [flatV]) (by omega) ?_; intro v4 w4 ho4 hg4 ha4; have c40 : w4.cell? ⟨w.heap.size, 0, none⟩ = some (.slice a1 x.1.length c1) := (World.cell?_of_block (hg4.block w.heap.size hw3l (fun e => by cases e))).trans hx30; have c41 : w4.cell? ⟨w.heap.size, 1, none⟩ = some (.slice a2 x.2.length c2) := (World.cell?_of_block (hg4.block w.heap.size hw3l (fun e => by cases e))).trans hx31; have HO4 := Lib.hid ho4; have HG4 := Lib.hid hg4; have HA4 := Lib.hid ha4; clear ho4 hg4 ha4))
        | (at_builtin; (refine wpList_appPA _ rfl _ _ rfl (World.ownsRow.alloc HO4.out _) rfl (some ⟨w4.heap.size, 0, none⟩) 1 1 [(.slice a1 x.1.length c1, .slice a2 x.2.length c2)] rfl rfl (cells_one w4 _ _) (by simp [flatV, Value.oneCell']) (by omega) ?_; intro v5 w5 ho5 hg5 ha5; have HO5 := Lib.hid ho5; have HG5 := Lib.hid hg5; have HA5 := Lib.hid ha5; clear ho5 hg5 ha5))
        | (at_builtin; (refine wpList_appPA _ rfl _ _ rfl HO5.out rfl none 0 0 [] rfl rfl (fun j u hu => by simp [flatV] at hu) (by simp [flatV]) (by omega) ?_; intro v6 w6 ho6 hg6 ha6; have HO6 := Lib.hid ho6; have HG6 := Lib.hid hg6; clear ho6 hg6 ha6)))
      go_ret
      have h9 := three_rows (vs := []) (F := []) (k := 0) (x := x) HB3.out rfl (fun i p q h1 h2 => by simp at h1) HX1.out HX2.out (Nat.le_refl _) HG4.out HA4.out HG5.out HA5.out HG6.out (by simpa using HO6.out) rfl
      exact ⟨_, rfl, h9.1, h9.2⟩
  · obtain ⟨vs, hvs⟩ := hv.out
    obtain ⟨g, cap, rfl, hcap, hcapm, hg, hcs, hrp⟩ := hvs.reads hpos
    have HCS := Lib.hid (fun (W : World) (hb : Below w.heap.size w W) (j : Nat) (u : Value) (hu : (flatV vs)[j]? = some u) => (hb.cell (p := ⟨g, j, none⟩) hg).trans (hcs j u hu))
    have HRP := Lib.hid (fun (W : World) (hb : Below w.heap.size w W) => hrp.below hb)
    have HRX := Lib.hid (fun (W : World) (hb : Below w.heap.size w W) => (⟨h1.below hb, h2.below hb⟩ : RInts W w.heap.size a1 x.1 ∧ RInts W w.heap.size a2 x.2))
    have HPV := Lib.hid hvs
    have HVI := Lib.hid hv
    have HFL := Lib.hid hF
    have HXL := Lib.hid hx
    have HLC := Lib.hid (show vs.length ≤ cap by rw [hvs.len]; exact hcap)
    have hvl : vs.length = F.length := hvs.len
    have HVL := Lib.hid hvl
    have hp1 : (1 : Int) ≤ (F.length : Int) := by omega
    have HR0 := Lib.hid (fun (W : World) => show W.ownsRow 0 77 2 (.slice none 0 0) 0 (flatV []) from ⟨by simp [flatV], .inl ⟨rfl, rfl⟩⟩)
    have hx8 : x.1.length ≤ 1000 ∧ x.2.length ≤ 1000 := by omega
    have HX8 := Lib.hid hx8
    have hn8 := hn.1
    have hm8 := hn.2
    clear hv hvs hF hx h1 h2 hc1 hc2 hbx hb1 hw1 hcs hrp hvl hx8 hn
    go_enter Try.func109, Try.ntmps109
    go_upto_block 0 with fail
    rw [HW1.out]
    go_cut [5] (fun v5 wx => ∃ k : Nat, v5 = .int .i64 k ∧ k ≤ F.length ∧ Hid ((∀ j q, j < k → F[j]? = some q → ltP q x = true) ∧ (k < F.length → ∀ q, F[k]? = some q → ltP q x = false)) ∧ Hid (∃ n, w1.drewN n = wx))
    case first =>
      go_wp2_with fail
      go_loopg [5] F.length (fun g i wx => ∃ k : Nat, k + g = F.length ∧ i = .int .i64 k ∧ Hid (∀ j q, j < k → F[j]? = some q → ltP q x = true) ∧ Hid (∃ n, w1.drewN n = wx))
      case atStart => exact ⟨0, by omega, rfl, Lib.hid (fun j q h => absurd h (Nat.not_lt_zero _)), Lib.hid ⟨0, rfl⟩⟩
      case round =>
        obtain ⟨k, hk, rfl, HF1, HW⟩ := hrel
        have HF := HF1
        clear HF1
        cases gk with
        | zero =>
          obtain rfl : k = F.length := by omega
          go_wp2_with fail
          go_quiet (fail)
          go_wp2_with fail
          go_meet
          exact ⟨F.length, rfl, Nat.le_refl _, Lib.hid ⟨HF.out, fun h => absurd h (Nat.lt_irrefl _)⟩, Lib.hid (drew_more HW.out _)⟩
        | succ gk =>
          have hkl : k < F.length := by omega
          have hkl1 : (k : Int) < (F.length : Int) := by omega
          obtain ⟨q, hq⟩ : ∃ q, F[k]? = some q := ⟨_, List.getElem?_eq_getElem hkl⟩
          obtain ⟨n0, hn0⟩ := HW.out
          have hbw : Below w.heap.size w wr := by rw [← hn0]; exact Below.drewN_ HB1.out n0
          obtain ⟨_, ax, cx, ay, cy, hA, _, hq0, hq1, hcx, hcy, rx, ry⟩ := HRP.out wr hbw k q hq
          cases hA
          have hql := HFL.out q (List.mem_of_getElem? hq)
          have hxl := HXL.out
          have c0 : wr.cell? ⟨w.heap.size, 0, none⟩ = some (.slice a1 x.1.length c1) := by rw [← hn0]; simpa using cx0
          have c1' : wr.cell? ⟨w.heap.size, 1, none⟩ = some (.slice a2 x.2.length c2) := by rw [← hn0]; simpa using cx1
          have hrx := HRX.out wr hbw
          have HL1 := Lib.hid (fun n => less_any ax a1 q.1 x.1 cx c1 w.heap.size (wr.drewN n) (rx.drewN n) (hrx.1.drewN n) (by omega) HX8.out.1)
          have HL2 := Lib.hid (fun n => less_any ay a2 q.2 x.2 cy c2 w.heap.size (wr.drewN n) (ry.drewN n) (hrx.2.drewN n) (by omega) HX8.out.2)
          have HE1 := Lib.hid (fun n => equal_any ax a1 q.1 x.1 cx c1 w.heap.size (wr.drewN n) (rx.drewN n) (hrx.1.drewN n) (by omega) HX8.out.1)
          have HLT := Lib.hid (ltP_eq q x)
          obtain ⟨p1, hp1⟩ : ∃ p, befL q.1 x.1 = p := ⟨_, rfl⟩
          obtain ⟨p2, hp2⟩ : ∃ p, befL q.2 x.2 = p := ⟨_, rfl⟩
          obtain ⟨e1, he1⟩ : ∃ p, decide (q.1 = x.1) = p := ⟨_, rfl⟩
          rw [hp1] at HL1 HLT
          rw [hp2] at HL2 HLT
          rw [he1] at HE1 HLT
          have HQ := Lib.hid hq
          have hl1 : q.1.length ≤ cx := hcx
          have hl2 : q.2.length ≤ cy := hcy
          have HNX := Lib.hid (fun (h : ltP q x = true) => (show ∀ j r, j < k + 1 → F[j]? = some r → ltP r x = true from fun j r hj hr => by
            rcases Nat.lt_or_ge j k with h1 | h1
            · exact HF.out j r h1 hr
            · obtain rfl : j = k := by omega
              rw [HQ.out] at hr
              rw [← Option.some.inj hr]
              exact h))
          have HST := Lib.hid (fun (h : ltP q x = false) => (show k < F.length → ∀ r, F[k]? = some r → ltP r x = false from fun _ r hr => by
            rw [HQ.out] at hr
            rw [← Option.some.inj hr]
            exact h))
          clear hq hp1 hp2 he1 rx ry hrx hql hxl hn0 hbw cx0 cx1
          cases p1
          · cases e1
            · go_wp2_with fail
              go_quiet ((first | (go_at_call 123; with_reducible exact quiet_d0 (HL1.out _)) | (go_at_call 123; with_reducible exact quiet_d0 (HL2.out _)) | (go_at_call 124; with_reducible exact quiet_d0 (HE1.out _))))
              go_wp2_with fail
              go_meet
              exact ⟨k, rfl, by omega, Lib.hid ⟨HF.out, HST.out HLT.out⟩, Lib.hid (drew_more HW.out _)⟩
            · cases p2
              · go_wp2_with fail
                go_quiet ((first | (go_at_call 123; with_reducible exact quiet_d0 (HL1.out _)) | (go_at_call 123; with_reducible exact quiet_d0 (HL2.out _)) | (go_at_call 124; with_reducible exact quiet_d0 (HE1.out _))))
                go_wp2_with fail
                go_meet
                exact ⟨k, rfl, by omega, Lib.hid ⟨HF.out, HST.out HLT.out⟩, Lib.hid (drew_more HW.out _)⟩
              · go_wp2_with fail
                go_quiet ((first | (go_at_call 123; with_reducible exact quiet_d0 (HL1.out _)) | (go_at_call 123; with_reducible exact quiet_d0 (HL2.out _)) | (go_at_call 124; with_reducible exact quiet_d0 (HE1.out _))))
                go_wp2_with fail
                go_roundg gk
                case measure => omega
                case rel => exact ⟨k + 1, by omega, by go_num, Lib.hid (HNX.out HLT.out), Lib.hid (drew_more HW.out _)⟩
          · go_wp2_with fail
            go_quiet ((first | (go_at_call 123; with_reducible exact quiet_d0 (HL1.out _)) | (go_at_call 123; with_reducible exact quiet_d0 (HL2.out _)) | (go_at_call 124; with_reducible exact quiet_d0 (HE1.out _))))
            go_wp2_with fail
            go_roundg gk
            case measure => omega
            case rel => exact ⟨k + 1, by omega, by go_num, Lib.hid (HNX.out HLT.out), Lib.hid (drew_more HW.out _)⟩
    case rest =>
      obtain ⟨k, rfl, hkn, HK0, HW0⟩ := hcut
      have HK := HK0
      have HW := HW0
      clear HK0 HW0
      obtain ⟨w2, rfl⟩ : ∃ w2 : World, w2 = wc := ⟨_, rfl⟩
      have hpk := putK_of hkn HK.out.1 HK.out.2
      have hk5 : 0 + k ≤ 1000000 := by omega
      have HLT1 := Lib.hid (show (vs.take k).length = k by rw [List.length_take, HVL.out]; omega)
      have HLT3 := Lib.hid (show (vs.drop k).length = F.length - k by rw [List.length_drop, HVL.out])
      have HON1 := Lib.hid (show ∀ u ∈ flatV (vs.take k), u.oneCell' = true from fun u hu => HPV.out.one u (by rw [flatV_take] at hu; exact List.mem_of_mem_take hu))
      have HON3 := Lib.hid (show ∀ u ∈ flatV (vs.drop k), u.oneCell' = true from fun u hu => HPV.out.one u (by rw [flatV_drop] at hu; exact List.mem_of_mem_drop hu))
      have hcapk : (k : Int) ≤ (cap : Int) := by omega
      have hkn1 : (k : Int) ≤ (F.length : Int) := by omega
      obtain ⟨k0, hk0⟩ := HW.out
      have hb2 : Below w.heap.size w w2 := by rw [← hk0]; exact Below.drewN_ HB1.out k0
      have HB2 := Lib.hid hb2
      have c0 : w2.cell? ⟨w.heap.size, 0, none⟩ = some (.slice a1 x.1.length c1) := by rw [← hk0]; simpa using cx0
      have c1' : w2.cell? ⟨w.heap.size, 1, none⟩ = some (.slice a2 x.2.length c2) := by rw [← hk0]; simpa using cx1
      have hwl2 : w.heap.size < w2.heap.size := by rw [← hk0]; simpa using hwl
      have HPK := Lib.hid hpk
      clear hpk hk0 hb2 cx0 cx1
      rcases Nat.lt_or_ge k F.length with hkl | hkl
      · have hkl1 : (k : Int) < (F.length : Int) := by omega
        obtain ⟨q, hq⟩ : ∃ q, F[k]? = some q := ⟨_, List.getElem?_eq_getElem hkl⟩
        obtain ⟨_, ax, cx, ay, cy, hA, _, hq0, hq1, hcx, hcy, rx, ry⟩ := HRP.out w2 HB2.out k q hq
        cases hA
        have hql := HFL.out q (List.mem_of_getElem? hq)
        have hxl := HXL.out
        have hrx := HRX.out w2 HB2.out
        have hck : ¬ cap = k := by omega
        have HE1 := Lib.hid (fun n => equal_any ax a1 q.1 x.1 cx c1 w.heap.size (w2.drewN n) (rx.drewN n) (hrx.1.drewN n) (by omega) HX8.out.1)
        have HE2 := Lib.hid (fun n => equal_any ay a2 q.2 x.2 cy c2 w.heap.size (w2.drewN n) (ry.drewN n) (hrx.2.drewN n) (by omega) HX8.out.2)
        have hl1 : q.1.length ≤ cx := hcx
        have hl2 : q.2.length ≤ cy := hcy
        by_cases hqx : q = x
        · subst hqx
          have HE := Lib.hid (show putL q F = F by unfold putL; rw [HPK.out, if_pos hq])
          have d1 : decide (q.1 = q.1) = true := decide_eq_true rfl
          have d2 : decide (q.2 = q.2) = true := decide_eq_true rfl
          rw [d1] at HE1
          rw [d2] at HE2
          clear hq d1 d2 rx ry hrx hql hxl
          go_wp2_with fail
          go_quiet ((first | (go_at_call 124; with_reducible exact quiet_d0 (HE1.out _)) | (go_at_call 124; with_reducible exact quiet_d0 (HE2.out _))))
          go_wp2_with fail
          go_ret
          exact ⟨_, rfl, by rw [HE.out]; exact HVI.out.below (Below.drewN_ HB2.out _), Below.drewN_ HB2.out _⟩
        · have HE := Lib.hid (show putL x F = F.take k ++ x :: F.drop k by
            unfold putL
            rw [HPK.out, if_neg (fun h => hqx (by rw [hq] at h; exact Option.some.inj h))])
          have hor : decide (q.1 = x.1) = false ∨ decide (q.1 = x.1) = true ∧ decide (q.2 = x.2) = false := by
            by_cases h1 : q.1 = x.1
            · refine .inr ⟨decide_eq_true h1, decide_eq_false fun h2 => hqx (Prod.ext h1 h2)⟩
            · exact .inl (decide_eq_false h1)
          obtain ⟨e1, he1⟩ : ∃ p, decide (q.1 = x.1) = p := ⟨_, rfl⟩
          obtain ⟨e2, he2⟩ : ∃ p, decide (q.2 = x.2) = p := ⟨_, rfl⟩
          rw [he1, he2] at hor
          rw [he1] at HE1
          rw [he2] at HE2
          clear hq he1 he2 rx ry hrx hql hxl hqx
          rcases hor with rfl | ⟨rfl, rfl⟩
          all_goals
            go_wp2_with fail
            go_quiet ((first | (go_at_call 124; with_reducible exact quiet_d0 (HE1.out _)) | (go_at_call 124; with_reducible exact quiet_d0 (HE2.out _))))
            obtain ⟨w3, hw3⟩ : ∃ w3, w2.drewN nq = w3 := ⟨_, rfl⟩
            rw [hw3]
            have hx30 : w3.cell? ⟨w.heap.size, 0, none⟩ = some (.slice a1 x.1.length c1) := by rw [← hw3]; simpa using c0
            have hx31 : w3.cell? ⟨w.heap.size, 1, none⟩ = some (.slice a2 x.2.length c2) := by rw [← hw3]; simpa using c1'
            have HB3 := Lib.hid (show Below w.heap.size w w3 by rw [← hw3]; exact Below.drewN_ HB2.out _)
            have hw3l : w.heap.size < w3.heap.size := by rw [← hw3]; simpa using hwl2
            clear hw3 c0 c1' hq0 hq1
            go_wp2_with (first
              | (at_builtin; (refine wpList_appPA _ rfl _ _ rfl (HR0.out w3) rfl (some ⟨g, 0, none⟩) k cap (vs.take k) rfl HLT1.out (cells_take (HCS.out w3 HB3.out)) HON1.out (by omega) ?_; intro v4 w4 ho4 hg4 ha4; have c40 : w4.cell? ⟨w.heap.size, 0, none⟩ = some (.slice a1 x.1.length c1) := (World.cell?_of_block (hg4.block w.heap.size hw3l (fun e => by cases e))).trans hx30; have c41 : w4.cell? ⟨w.heap.size, 1, none⟩ = some (.slice a2 x.2.length c2) := (World.cell?_of_block (hg4.block w.heap.size hw3l (fun e => by cases e))).trans hx31; have HO4 := Lib.hid ho4; have HG4 := Lib.hid hg4; have HA4 := Lib.hid ha4; clear ho4 hg4 ha4))
              | (at_builtin; (refine wpList_appPA _ rfl _ _ rfl (World.ownsRow.alloc HO4.out _) rfl (some ⟨w4.heap.size, 0, none⟩) 1 1 [(.slice a1 x.1.length c1, .slice a2 x.2.length c2)] rfl rfl (cells_one w4 _ _) (by simp [flatV, Value.oneCell']) (by omega) ?_; intro v5 w5 ho5 hg5 ha5; have HO5 := Lib.hid ho5; have HG5 := Lib.hid hg5; have HA5 := Lib.hid ha5; clear ho5 hg5 ha5))
              | (at_builtin; (refine wpList_appPA _ rfl _ _ rfl HO5.out rfl _ _ _ (vs.drop k) rfl (by have := HLT3.out; omega) (cells_from (HCS.out w5 (put_b5 HB3.out HG4.out HA4.out HG5.out)) (Nat.mul_comm _ _)) HON3.out (by omega) ?_; intro v6 w6 ho6 hg6 ha6; have HO6 := Lib.hid ho6; have HG6 := Lib.hid hg6; clear ho6 hg6 ha6)))
            go_ret
            have h9 := three_rows (vs := vs) (F := F) (k := k) (x := x) HB3.out HVL.out HPV.out.at_ HX1.out HX2.out (by omega) HG4.out HA4.out HG5.out HA5.out HG6.out (by simpa using HO6.out) (by omega)
            exact ⟨_, rfl, by rw [HE.out]; exact h9.1, h9.2⟩
      · obtain rfl : k = F.length := by omega
        have HVD := Lib.hid (show vs.drop F.length = [] from List.drop_eq_nil_of_le (by rw [HVL.out]; exact Nat.le_refl _))
        have HE := Lib.hid (show putL x F = F.take F.length ++ x :: F.drop F.length by
          unfold putL
          rw [HPK.out, if_neg (by rw [List.getElem?_eq_none (Nat.le_refl _)]; exact fun h => by cases h)])
        go_wp2_with fail
        go_quiet (fail)
        obtain ⟨w3, hw3⟩ : ∃ w3, w2.drewN nq = w3 := ⟨_, rfl⟩
        rw [hw3]
        have hx30 : w3.cell? ⟨w.heap.size, 0, none⟩ = some (.slice a1 x.1.length c1) := by rw [← hw3]; simpa using c0
        have hx31 : w3.cell? ⟨w.heap.size, 1, none⟩ = some (.slice a2 x.2.length c2) := by rw [← hw3]; simpa using c1'
        have HB3 := Lib.hid (show Below w.heap.size w w3 by rw [← hw3]; exact Below.drewN_ HB2.out _)
        have hw3l : w.heap.size < w3.heap.size := by rw [← hw3]; simpa using hwl2
        clear hw3 c0 c1'
        by_cases hck : cap = F.length
        all_goals
          try subst hck
          go_wp2_with (first
            | (at_builtin; (refine wpList_appPA _ rfl _ _ rfl (HR0.out w3) rfl (some ⟨g, 0, none⟩) F.length _ (vs.take F.length) rfl HLT1.out (cells_take (HCS.out w3 HB3.out)) HON1.out (by omega) ?_; intro v4 w4 ho4 hg4 ha4; have c40 : w4.cell? ⟨w.heap.size, 0, none⟩ = some (.slice a1 x.1.length c1) := (World.cell?_of_block (hg4.block w.heap.size hw3l (fun e => by cases e))).trans hx30; have c41 : w4.cell? ⟨w.heap.size, 1, none⟩ = some (.slice a2 x.2.length c2) := (World.cell?_of_block (hg4.block w.heap.size hw3l (fun e => by cases e))).trans hx31; have HO4 := Lib.hid ho4; have HG4 := Lib.hid hg4; have HA4 := Lib.hid ha4; clear ho4 hg4 ha4))
            | (at_builtin; (refine wpList_appPA _ rfl _ _ rfl (World.ownsRow.alloc HO4.out _) rfl (some ⟨w4.heap.size, 0, none⟩) 1 1 [(.slice a1 x.1.length c1, .slice a2 x.2.length c2)] rfl rfl (cells_one w4 _ _) (by simp [flatV, Value.oneCell']) (by omega) ?_; intro v5 w5 ho5 hg5 ha5; have HO5 := Lib.hid ho5; have HG5 := Lib.hid hg5; have HA5 := Lib.hid ha5; clear ho5 hg5 ha5))
            | (at_builtin; (refine wpList_appPA _ rfl _ _ rfl HO5.out rfl _ _ _ (vs.drop F.length) rfl (by have := HLT3.out; omega) (cells_nil HVD.out) HON3.out (by omega) ?_; intro v6 w6 ho6 hg6 ha6; have HO6 := Lib.hid ho6; have HG6 := Lib.hid hg6; clear ho6 hg6 ha6)))
          go_ret
          have h9 := three_rows (vs := vs) (F := F) (k := F.length) (x := x) HB3.out HVL.out HPV.out.at_ HX1.out HX2.out (by omega) HG4.out HA4.out HG5.out HA5.out HG6.out (by simpa using HO6.out) (by omega)
          exact ⟨_, rfl, by rw [HE.out]; exact h9.1, h9.2⟩

end Go.Proofs.Ytkkholagmjcgiaa
