/- The closure of rank, IndexFunc over it, and the library's Delete at a row of one's own. -/
import Derived.Test.YtkkholagmjcgiaaWinner
import Derived.Test.YtkkholagmjcgiaaEven
namespace Go.Proofs.Ytkkholagmjcgiaa
open Go.RowKit

/-- Cells stored one behind the other into a block. -/
theorem box_setCells {g : Nat} {t : TypeId} : ∀ (vs : List Value) (o : Nat) {w : World} {cs : Array Value}, Box w g t cs → o + vs.length ≤ cs.size →
    ∃ cs', Box (w.setCells g o vs) g t cs' ∧ cs'.size = cs.size ∧ ∀ j, cs'[j]? = if o ≤ j ∧ j < o + vs.length then vs[j - o]? else cs[j]?
  | [], o, w, cs, h, _ => ⟨cs, h, rfl, fun j => by rw [if_neg (by simp)]⟩
  | v :: r, o, w, cs, h, hl => by
    simp only [List.length_cons] at hl
    obtain ⟨cs', h1, h2, h3⟩ := box_setCells r (o + 1) (h.put o v) (by simp; omega)
    refine ⟨cs', h1, by rw [h2]; simp, fun j => ?_⟩
    rw [h3 j]
    by_cases ha : o + 1 ≤ j ∧ j < o + 1 + r.length
    · rw [if_pos ha, if_pos ⟨by omega, by simp; omega⟩, show j - o = (j - (o + 1)) + 1 by omega]
      rfl
    · rw [if_neg ha]
      by_cases hb : j = o
      · subst hb
        rw [if_pos ⟨Nat.le_refl _, by simp⟩, Nat.sub_self]
        simp [show j < cs.size by omega]
      · rw [if_neg (by simp; omega)]
        simp [Ne.symm hb]

theorem grown_setCells {w : World} {g : Nat} : ∀ (vs : List Value) (o : Nat), w.grownBy (w.setCells g o vs) (some g)
  | vs, o => by
    induction vs generalizing w o with
    | nil => exact World.grownBy.refl w _
    | cons v r ih =>
      have h1 : w.grownBy (w.setCell ⟨g, o, none⟩ v) (some g) :=
        ⟨rfl, rfl, rfl, by simp [World.setCell], fun i hi hne => Below.heap_setCell w _ v i (fun e => hne (by rw [e]))⟩
      exact h1.andThen (ih (w := w.setCell ⟨g, o, none⟩ v) (o + 1)) (fun j hj => .inr (by rw [hj]))

/-- slices.Delete of one element, at a row of one's own. -/
theorem Delete_own (g k i : Nat) (zs : List Int) (w : World) (h : OwnR w g k zs) (hi : i < zs.length) :
    Calls Try.prog 89 #[.slice (some ⟨g, 0, none⟩) zs.length k, .int .i64 i, .int .i64 ((i + 1 : Nat) : Int)] w fun e w' => e = .returned (.slice (some ⟨g, 0, none⟩) (zs.length - 1) k) ∧ OwnR w' g k (zs.eraseIdx i) ∧ w.grownBy w' (some g) := by
  obtain ⟨cur, hb, h1, h2, h3, h4⟩ := h.box
  have hcells : ∀ j, j < zs.length → w.cell? ⟨g, 0 + j, none⟩ = some (.int .i64 (zs.getD j 0)) := fun j hj => by
    have h1 := h.at_ (List.getElem?_eq_getElem hj)
    have h2 : zs.getD j 0 = zs[j] := by simp [List.getD, List.getElem?_eq_getElem hj]
    rw [h2, Nat.zero_add]
    exact h1
  have hc := Try.slices_Delete_int_cells g 0 zs.length k i (i + 1) zs w (Nat.le_refl _) h2 (by unfold maxLen at h3; exact h3) (by omega) (by omega) hcells (fun j _ => hb.free _)
  refine hc.mono ?_
  rintro e w' ⟨rfl, q, rfl⟩
  have hlen : (((zs.take zs.length).take i ++ (zs.take zs.length).drop (i + 1) ++ List.replicate (i + 1 - i) (0 : Int)).map (Value.int .i64)).length = zs.length := by simp; omega
  obtain ⟨cs', b1, b2, b3⟩ := box_setCells _ 0 (hb.drewN q) (by rw [hlen]; omega)
  have her : zs.eraseIdx i = zs.take i ++ zs.drop (i + 1) := List.eraseIdx_eq_take_drop_succ zs i
  have hel : (zs.eraseIdx i).length = zs.length - 1 := by rw [List.length_eraseIdx, if_pos hi]
  refine ⟨by rw [show i + 1 - i = 1 by omega], OwnR.of_box b1 (by rw [b2, h1]) (by omega) h3 ?_, ?_⟩
  · apply List.ext_getElem?
    intro j
    rw [List.getElem?_take]
    by_cases hj : j < (zs.eraseIdx i).length
    · rw [if_pos hj, Array.getElem?_toList, b3 j, if_pos ⟨Nat.zero_le _, by rw [hlen]; omega⟩, Nat.sub_zero, List.take_length, List.getElem?_map, List.getElem?_map, List.getElem?_append_left (by simp; omega), ← her]
    · rw [if_neg hj, List.getElem?_eq_none (by simp; omega)]
  · exact ⟨(grown_setCells (w := w.drewN q) _ 0).os, (grown_setCells (w := w.drewN q) _ 0).tape, (grown_setCells (w := w.drewN q) _ 0).output, (grown_setCells (w := w.drewN q) _ 0).size, (grown_setCells (w := w.drewN q) _ 0).block⟩

/-- An index, or -1. -/
def idxOr : Option Nat → Int
  | some i => (i : Int)
  | none => -1

/-- The first of the dice left that none of those left beats. -/
def pick (t : List (List Bool)) (left : List Int) : Option Nat := left.findIdx? fun d => decide (winnerL t left d < 0)
/-- Dice are taken away, one after the other. -/
def rankL (t : List (List Bool)) : Nat → List Int → List Int → List Int × List Int
  | 0, r, l => (r, l)
  | k + 1, r, l => match pick t l with
    | none => (r, l)
    | some i => rankL t k (r ++ [l.getD i 0]) (l.eraseIdx i)

set_option maxHeartbeats 1000000 in
theorem rank1_any (A A2 : Option Addr) (t : List (List Bool)) (left : List Int) (d : Int) (c c2 n B Bt Bl : Nat) (w : World) (hbt : Box w Bt 37 #[.slice A n c]) (hbl : Box w Bl 36 #[.slice A2 left.length c2])
    (ht : RTab w B A t) (hs : RInts w B A2 left) (hq : Square t n) (hi : Inds left n) (hd : 0 ≤ d ∧ d < n) (hn : n ≤ 1000) (hl : left.length ≤ 1000) :
    Calls Try.prog 87 #[.int .i64 d, .pointer (some ⟨Bt, 0, none⟩), .pointer (some ⟨Bl, 0, none⟩)] w fun e w' => e = .returned (.bool (decide (winnerL t left d < 0))) ∧ w = w' := by
  have HC := Lib.hid (winner_any A A2 t left d c c2 n B w ht hs hq hi hd hn hl)
  have c1 := hbt.cell 0
  have c2' := hbl.cell 0
  simp only [List.getElem?_toArray, List.getElem?_cons_zero] at c1 c2'
  clear hbt hbl ht hs hq hi hd
  go_enter Try.func87, Try.ntmps87
  go_wp2_with fail
  refine HC.out.mono ?_
  rintro e w' ⟨rfl, rfl⟩
  go_wp2_with fail
  go_ret
  exact ⟨rfl, rfl⟩

set_option maxHeartbeats 1000000 in
theorem IndexFunc_rank (p : Int → Bool) (A2 : Option Addr) (left : List Int) (c2 B Bt Bl : Nat) (w : World) (hs : RInts w B A2 left) (hl : left.length ≤ 1000)
    (hp : ∀ d ∈ left, Calls Try.prog 87 #[.int .i64 d, .pointer (some ⟨Bt, 0, none⟩), .pointer (some ⟨Bl, 0, none⟩)] w fun e w' => e = .returned (.bool (p d)) ∧ w = w') :
    Calls Try.prog 86 #[.slice A2 left.length c2, .func (.func 87) #[] #[.pointer (some ⟨Bt, 0, none⟩), .pointer (some ⟨Bl, 0, none⟩)]] w
      fun e w' => e = .returned (.int .i64 (idxOr (left.findIdx? p))) ∧ w = w' := by
  have HP := Lib.hid hp
  have HS := Lib.hid hs
  clear hp hs
  go_enter Try.func86, Try.ntmps86
  go_wp2_with fail
  go_loopg [8] left.length (fun g i wx => ∃ j : Nat, j + g = left.length ∧ i = .int .i64 j ∧ Hid ((left.take j).findIdx? p = none) ∧ w = wx)
  case atStart => exact ⟨0, by omega, rfl, rfl, rfl⟩
  case round =>
    obtain ⟨j, hj, rfl, HF, rfl⟩ := hrel
    have HF2 := HF
    clear HF
    cases gk with
    | zero =>
      obtain rfl : j = left.length := by omega
      go_wp2_with fail
      go_ret
      refine ⟨ret_int ?_, rfl⟩
      have := HF2.out
      rw [List.take_length] at this
      rw [this]
      rfl
    | succ g =>
      obtain ⟨b, o, x, hA, hb, hx, hc⟩ := HS.out.at_ (k := j) (by omega)
      subst hA
      have hlt : j < left.length := by omega
      have HT2 := Lib.hid (show (left.take (j + 1)) = left.take j ++ [x] by rw [List.take_succ_eq_append_getElem hlt, (List.getElem?_eq_some_iff.1 hx).2])
      have HC := Lib.hid (HP.out x (List.mem_of_getElem? hx))
      have hjl : (j : Int) < (left.length : Int) := by omega
      have hll : (left.take j).length = j := by simp; omega
      have HLL := Lib.hid hll
      clear hx hll
      cases hpx : p x
      · have HPX := Lib.hid hpx
        clear hpx
        go_wp2_with fail
        refine HC.out.mono ?_
        rintro e w' ⟨rfl, rfl⟩
        rw [HPX.out]
        go_wp2_with fail
        go_roundg g
        case measure => omega
        case rel => exact ⟨j + 1, by omega, by go_num, (by show List.findIdx? _ _ = _; rw [HT2.out, List.findIdx?_append, HF2.out]; simp [HPX.out]), rfl⟩
      · have HPX := Lib.hid hpx
        clear hpx
        go_wp2_with fail
        refine HC.out.mono ?_
        rintro e w' ⟨rfl, rfl⟩
        rw [HPX.out]
        go_wp2_with fail
        go_ret
        refine ⟨ret_int ?_, rfl⟩
        have e : left = left.take (j + 1) ++ left.drop (j + 1) := (List.take_append_drop _ _).symm
        have e2 : left.findIdx? p = some j := by
          rw [e, HT2.out, List.findIdx?_append, List.findIdx?_append, HF2.out]
          simp [HPX.out, HLL.out]
        rw [e2]
        rfl

end Go.Proofs.Ytkkholagmjcgiaa
