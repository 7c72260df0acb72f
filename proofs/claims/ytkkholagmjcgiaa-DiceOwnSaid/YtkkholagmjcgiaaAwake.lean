/- Closed values of the plain functions that awake asks for. · The function awake of the statements: it answers true, whatever there is in memory, and nothing that was there turns. -/
import Derived.Test.YtkkholagmjcgiaaTwins
import Derived.Test.YtkkholagmjcgiaaRing
import Derived.Test.YtkkholagmjcgiaaOrders
namespace Go.Proofs.Ytkkholagmjcgiaa
open Go.RowKit Go.Shelf

def sixL : List Int := [1, 2, 3, 4, 5, 6]
def threeL : List (List Int) := [[2, 4, 9], [1, 6, 8], [3, 5, 7]]
theorem dice_six2 : checkL [sixL, sixL] = 0 := by decide +kernel
theorem dice_three : checkL threeL = 0 := by decide +kernel
theorem dice_01 : checkL [[0], [1]] = 0 := by decide +kernel
theorem check_nil : checkL [] = 10 := by decide +kernel
theorem res_six : resL [sixL, sixL] = 36 := by decide +kernel
theorem ways_six : waysF [sixL, sixL] 7 = 6 := by decide +kernel
theorem ring_three : leftL threeL ≠ [] ∧ (ringL (tbl threeL) (leftL threeL) threeL.length).length = 3 := by decide +kernel
theorem even_22 : (evenL 2 2).length = 2 := by decide +kernel
theorem chains_22 : chains 2 2 = 2 := by decide +kernel
theorem common_01 : commonL [[0], [1]] = false := by decide +kernel
theorem nums_01 : numsL [[0], [1]] (ordersL [[(0 : Int)], [1]].length) = [1, 0] := by decide +kernel
theorem twins_six : (twinsL sixL sixL).length = 3 := by decide +kernel

end Go.Proofs.Ytkkholagmjcgiaa

namespace Go.Proofs.Ytkkholagmjcgiaa
open Go.RowKit Go.Shelf

theorem OutOk.form {Z : Nat → Prop} {w : World} {fv : Value} {F : List (List Int × List Int)} (h : OutOk Z w fv F) (hpos : 1 ≤ F.length) : ∃ g k, fv = .slice (some ⟨g, 0, none⟩) F.length k := by
  obtain ⟨vs, _, h1, _⟩ := h
  rcases h1.2 with ⟨_, h2⟩ | ⟨g, cap, cur, e, _⟩
  · omega
  · exact ⟨g, cap, e⟩
theorem I64Row.form {w : World} {base : Nat} {v : Value} {zs : List Int} (h : I64Row w base v zs) (hpos : 1 ≤ zs.length) : ∃ g k, v = .slice (some ⟨g, 0, none⟩) zs.length k ∧ g < w.heap.size ∧ ∀ j z, zs[j]? = some z → w.cell? ⟨g, j, none⟩ = some (.int .i64 z) := by
  rcases h.2 with ⟨_, h2⟩ | ⟨g, cap, cur, e, hb, hh, h1, h2, h3, h4⟩
  · omega
  · refine ⟨g, cap, e, Box.lt hh, fun j z hz => ?_⟩
    have hbx : Box w g 2 cur := hh
    have hj : j < zs.length := (List.getElem?_eq_some_iff.1 hz).1
    rw [hbx.cell j]
    have h5 := congrArg (fun l => l[j]?) h4
    simp only [List.getElem?_map, hz, Option.map_some] at h5
    rw [List.getElem?_take, if_pos (by omega)] at h5
    simpa using h5
theorem rints_lit (w : World) (zs : List Int) (t : TypeId) (cs : Array Value) (h : cs.toList = zs.map (Value.int .i64)) {W : World} (hb : Below (w.heap.size + 1) (w.alloc (.cells cs t)) W) (hs : w.heap.size + 1 ≤ W.heap.size) : RInts W W.heap.size (some ⟨w.heap.size, 0, none⟩) zs := fun j u hu => by
  refine ⟨w.heap.size, 0, rfl, by omega, ?_⟩
  have h1 := (Box.new w t cs).cell j
  rw [Nat.zero_add, (hb.cell (p := ⟨w.heap.size, j, none⟩) (by show w.heap.size < _; omega)).trans h1, ← Array.getElem?_toList, h]
  exact hu

theorem dice_lit3 (w : World) : RDice ((((w.alloc (Obj.cells #[Value.int .i64 2, Value.int .i64 4, Value.int .i64 9] 3)).alloc (Obj.cells #[Value.int .i64 1, Value.int .i64 6, Value.int .i64 8] 3)).alloc (Obj.cells #[Value.int .i64 3, Value.int .i64 5, Value.int .i64 7] 3)).alloc (Obj.cells #[Value.slice (some ⟨w.heap.size, 0, none⟩) 3 3, Value.slice (some ⟨w.heap.size + 1, 0, none⟩) 3 3, Value.slice (some ⟨w.heap.size + 1 + 1, 0, none⟩) 3 3] 36))
    ((((w.alloc (Obj.cells #[Value.int .i64 2, Value.int .i64 4, Value.int .i64 9] 3)).alloc (Obj.cells #[Value.int .i64 1, Value.int .i64 6, Value.int .i64 8] 3)).alloc (Obj.cells #[Value.int .i64 3, Value.int .i64 5, Value.int .i64 7] 3)).alloc (Obj.cells #[Value.slice (some ⟨w.heap.size, 0, none⟩) 3 3, Value.slice (some ⟨w.heap.size + 1, 0, none⟩) 3 3, Value.slice (some ⟨w.heap.size + 1 + 1, 0, none⟩) 3 3] 36)).heap.size (some ⟨w.heap.size + 1 + 1 + 1, 0, none⟩) threeL := by
  obtain ⟨a, ha⟩ : ∃ a, w.alloc (Obj.cells #[Value.int .i64 2, Value.int .i64 4, Value.int .i64 9] 3) = a := ⟨_, rfl⟩
  obtain ⟨b, hb⟩ : ∃ b, a.alloc (Obj.cells #[Value.int .i64 1, Value.int .i64 6, Value.int .i64 8] 3) = b := ⟨_, rfl⟩
  obtain ⟨c, hc⟩ : ∃ c, b.alloc (Obj.cells #[Value.int .i64 3, Value.int .i64 5, Value.int .i64 7] 3) = c := ⟨_, rfl⟩
  have sa : a.heap.size = w.heap.size + 1 := by rw [← ha]; simp
  have sb : b.heap.size = a.heap.size + 1 := by rw [← hb]; simp
  have sc : c.heap.size = b.heap.size + 1 := by rw [← hc]; simp
  rw [ha, hb, hc]
  obtain ⟨d, hd⟩ : ∃ d, c.alloc (Obj.cells #[Value.slice (some ⟨w.heap.size, 0, none⟩) 3 3, Value.slice (some ⟨w.heap.size + 1, 0, none⟩) 3 3, Value.slice (some ⟨w.heap.size + 1 + 1, 0, none⟩) 3 3] 36) = d := ⟨_, rfl⟩
  have sd : d.heap.size = c.heap.size + 1 := by rw [← hd]; simp
  have bcd : Below c.heap.size c d := by rw [← hd]; exact (Below.refl _ c).alloc (Nat.le_refl _) _
  have bbd : Below b.heap.size b d := ((by rw [← hc]; exact (Below.refl _ b).alloc (Nat.le_refl _) _ : Below b.heap.size b c)).trans (bcd.mono (by omega))
  have bad : Below a.heap.size a d := ((by rw [← hb]; exact (Below.refl _ a).alloc (Nat.le_refl _) _ : Below a.heap.size a b)).trans (bbd.mono (by omega))
  rw [hd]
  have r1 := rints_lit w [2, 4, 9] 3 #[Value.int .i64 2, Value.int .i64 4, Value.int .i64 9] rfl (W := d) (by rw [ha, ← sa]; exact bad) (by omega)
  have r2 := rints_lit a [1, 6, 8] 3 #[Value.int .i64 1, Value.int .i64 6, Value.int .i64 8] rfl (W := d) (by rw [hb, ← sb]; exact bbd) (by omega)
  have r3 := rints_lit b [3, 5, 7] 3 #[Value.int .i64 3, Value.int .i64 5, Value.int .i64 7] rfl (W := d) (by rw [hc, ← sc]; exact bcd) (by omega)
  rw [sa] at r2
  rw [sb, sa] at r3
  have hbx : Box d c.heap.size 36 #[Value.slice (some ⟨w.heap.size, 0, none⟩) 3 3, Value.slice (some ⟨w.heap.size + 1, 0, none⟩) 3 3, Value.slice (some ⟨w.heap.size + 1 + 1, 0, none⟩) 3 3] := by rw [← hd]; exact Box.new _ _ _
  have sce : c.heap.size = w.heap.size + 1 + 1 + 1 := by omega
  rw [sce] at hbx
  refine ⟨[Value.slice (some ⟨w.heap.size, 0, none⟩) 3 3, Value.slice (some ⟨w.heap.size + 1, 0, none⟩) 3 3, Value.slice (some ⟨w.heap.size + 1 + 1, 0, none⟩) 3 3], rfl, fun j u hu => ⟨_, 0, rfl, hbx.lt, ?_⟩, fun i v x hv hx => ?_⟩
  · rw [Nat.zero_add, hbx.cell j]
    simpa using hu
  · match i with
    | 0 => simp [threeL] at hv hx; subst hv hx; exact ⟨_, _, rfl, by decide, r1⟩
    | 1 => simp [threeL] at hv hx; subst hv hx; exact ⟨_, _, rfl, by decide, r2⟩
    | 2 => simp [threeL] at hv hx; subst hv hx; exact ⟨_, _, rfl, by decide, r3⟩
    | i + 3 => simp at hv

theorem dice_lit2 (w : World) : RDice (((w.alloc (Obj.cells #[Value.int .i64 0] 3)).alloc (Obj.cells #[Value.int .i64 1] 3)).alloc (Obj.cells #[Value.slice (some ⟨w.heap.size, 0, none⟩) 1 1, Value.slice (some ⟨w.heap.size + 1, 0, none⟩) 1 1] 36))
    (((w.alloc (Obj.cells #[Value.int .i64 0] 3)).alloc (Obj.cells #[Value.int .i64 1] 3)).alloc (Obj.cells #[Value.slice (some ⟨w.heap.size, 0, none⟩) 1 1, Value.slice (some ⟨w.heap.size + 1, 0, none⟩) 1 1] 36)).heap.size (some ⟨w.heap.size + 1 + 1, 0, none⟩) [[0], [1]] := by
  obtain ⟨a, ha⟩ : ∃ a, w.alloc (Obj.cells #[Value.int .i64 0] 3) = a := ⟨_, rfl⟩
  obtain ⟨b, hb⟩ : ∃ b, a.alloc (Obj.cells #[Value.int .i64 1] 3) = b := ⟨_, rfl⟩
  have sa : a.heap.size = w.heap.size + 1 := by rw [← ha]; simp
  have sb : b.heap.size = a.heap.size + 1 := by rw [← hb]; simp
  rw [ha, hb]
  obtain ⟨d, hd⟩ : ∃ d, b.alloc (Obj.cells #[Value.slice (some ⟨w.heap.size, 0, none⟩) 1 1, Value.slice (some ⟨w.heap.size + 1, 0, none⟩) 1 1] 36) = d := ⟨_, rfl⟩
  have sd : d.heap.size = b.heap.size + 1 := by rw [← hd]; simp
  have bbd : Below b.heap.size b d := by rw [← hd]; exact (Below.refl _ b).alloc (Nat.le_refl _) _
  have bad : Below a.heap.size a d := ((by rw [← hb]; exact (Below.refl _ a).alloc (Nat.le_refl _) _ : Below a.heap.size a b)).trans (bbd.mono (by omega))
  rw [hd]
  have r1 := rints_lit w [0] 3 #[Value.int .i64 0] rfl (W := d) (by rw [ha, ← sa]; exact bad) (by omega)
  have r2 := rints_lit a [1] 3 #[Value.int .i64 1] rfl (W := d) (by rw [hb, ← sb]; exact bbd) (by omega)
  rw [sa] at r2
  have hbx : Box d b.heap.size 36 #[Value.slice (some ⟨w.heap.size, 0, none⟩) 1 1, Value.slice (some ⟨w.heap.size + 1, 0, none⟩) 1 1] := by rw [← hd]; exact Box.new _ _ _
  have sce : b.heap.size = w.heap.size + 1 + 1 := by omega
  rw [sce] at hbx
  refine ⟨[Value.slice (some ⟨w.heap.size, 0, none⟩) 1 1, Value.slice (some ⟨w.heap.size + 1, 0, none⟩) 1 1], rfl, fun j u hu => ⟨_, 0, rfl, hbx.lt, ?_⟩, fun i v x hv hx => ?_⟩
  · rw [Nat.zero_add, hbx.cell j]
    simpa using hu
  · match i with
    | 0 => simp at hv hx; subst hv hx; exact ⟨_, _, rfl, by decide, r1⟩
    | 1 => simp at hv hx; subst hv hx; exact ⟨_, _, rfl, by decide, r2⟩
    | i + 2 => simp at hv

set_option maxRecDepth 100000 in
set_option maxHeartbeats 8000000 in
theorem awake_any (w : World) : Calls Try.prog 22 #[] w fun e w' => e = .returned (.bool true) ∧ Below w.heap.size w w' := by
  have HD6 := Lib.hid (areDice_of dice_six2)
  go_enter Try.func22, Try.ntmps22
  go_wp2_with fail
  obtain ⟨w1, hw1⟩ : ∃ w1, w.alloc (Obj.cells #[Value.int .i64 1, Value.int .i64 2, Value.int .i64 3, Value.int .i64 4, Value.int .i64 5, Value.int .i64 6] 3) = w1 := ⟨_, rfl⟩
  have hs1 : w1.heap.size = w.heap.size + 1 := by rw [← hw1]; simp
  have HB1 := Lib.hid (show Below w.heap.size w w1 from by rw [← hw1]; exact (Below.refl _ w).alloc (Nat.le_refl _) _)
  have HS := Lib.hid (show ∀ W, Below w1.heap.size w1 W → RInts W W.heap.size (some ⟨w.heap.size, 0, none⟩) sixL from fun W hb => by
    rw [← hw1] at hb
    exact rints_lit w sixL 3 _ rfl (by simpa using hb) (by have := hb.size; simpa using this))
  rw [hw1]
  have HS1 := Lib.hid hs1
  have hbk : w.heap.size + 1 = w1.heap.size := hs1.symm
  rw [hbk]
  clear hw1 hs1 hbk
  -- Results
  refine (Results_ok (some ⟨w1.heap.size, 0, none⟩) [sixL, sixL] 2 _ _ (RDice.two (HS.out w1 (Below.refl _ _)) (HS.out w1 (Below.refl _ _)) (by decide) (by decide) (Nat.le_refl _)) HD6.out).mono ?_
  rintro e W ⟨rfl, n, rfl⟩
  rw [res_six]
  obtain ⟨w2, hw2⟩ : ∃ w2, (w1.alloc (Obj.cells #[Value.slice (some ⟨w.heap.size, 0, none⟩) sixL.length 6, Value.slice (some ⟨w.heap.size, 0, none⟩) sixL.length 6] 36)).drewN n = w2 := ⟨_, rfl⟩
  have HB2 := Lib.hid (show Below w1.heap.size w1 w2 from by rw [← hw2]; exact Below.drewN_ ((Below.refl _ w1).alloc (Nat.le_refl _) _) n)
  rw [hw2, show ((36 : Nat) : Int) = 36 from rfl]
  clear hw2
  go_wp2_with fail
  -- Ways
  refine (Ways_ok (some ⟨w2.heap.size, 0, none⟩) [sixL, sixL] 2 7 _ (by have := RDice.two (c1 := 6) (c2 := 6) (HS.out w2 HB2.out) (HS.out w2 HB2.out) (by decide) (by decide) (Nat.le_refl _); exact this.more (by simp)) HD6.out ⟨by decide, by decide⟩).mono ?_
  rintro e w3 ⟨rfl, hb3⟩
  rw [ways_six]
  have HB3 := Lib.hid (show Below w1.heap.size w1 w3 from HB2.out.trans (((Below.refl _ w2).alloc (Nat.le_refl _) _).trans (hb3.mono (by simp) ) |>.mono HB2.out.size))
  clear hb3
  go_wp2_with fail
  -- Twins
  refine (Twins_ok (some ⟨w.heap.size, 0, none⟩) (some ⟨w.heap.size, 0, none⟩) sixL sixL 6 6 w3 (HS.out w3 HB3.out) (HS.out w3 HB3.out) (by decide) (by decide) (HD6.out.die _ (by simp)) (HD6.out.die _ (by simp))).mono ?_
  rintro e w4 ⟨tv, rfl, hot, hb4⟩
  obtain ⟨gt, kt, rfl⟩ := hot.form (by rw [twins_six]; decide)
  rw [twins_six]
  have HB4 := Lib.hid (show Below w1.heap.size w1 w4 from keepC2 HB3.out HB3.out.size hb4)
  clear hot hb4
  go_wp2_with fail
  -- Ring
  refine (Ring_any (some ⟨w4.heap.size + 1 + 1 + 1, 0, none⟩) threeL 3 _ (dice_lit3 w4) (areDice_of dice_three)).mono ?_
  rintro e w5 ⟨hrg, hb5⟩
  obtain ⟨hnl, _⟩ | ⟨_, Ar, cr, rfl, _⟩ := hrg
  · exact absurd hnl ring_three.1
  rw [ring_three.2]
  have HB5 := Lib.hid (show Below w1.heap.size w1 w5 from keepC2 (((((HB4.out.alloc HB4.out.size _).alloc (by have := HB4.out.size; simp; omega) _).alloc (by have := HB4.out.size; simp; omega) _).alloc (by have := HB4.out.size; simp; omega) _)) (by have := HB4.out.size; simp; omega) hb5)
  clear hb5
  go_wp2_with fail
  -- Even
  refine (show Calls Try.prog 48 #[.int .i64 2, .int .i64 2] w5 _ from Even_ok 2 2 (by decide) (by decide) (by decide) (by decide) w5).mono ?_
  rintro e w6 ⟨ev, rfl, hoe, hb6⟩
  obtain ⟨ge, ke, rfl⟩ := hoe.form (by rw [even_22]; decide)
  rw [even_22]
  have HB6 := Lib.hid (show Below w1.heap.size w1 w6 from keepC2 HB5.out HB5.out.size hb6)
  clear hoe hb6
  go_wp2_with fail
  -- Chains
  refine (show Calls Try.prog 49 #[.int .i64 2, .int .i64 2] w6 _ from Chains_ok 2 2 (by decide) (by decide) (by decide) (by decide) w6).mono ?_
  rintro e w7 ⟨rfl, rfl⟩
  rw [chains_22, show ((2 : Nat) : Int) = 2 from rfl]
  go_wp2_with fail
  -- Orders
  refine (Orders_ok (some ⟨w6.heap.size + 1 + 1, 0, none⟩) [[0], [1]] 2 _ (dice_lit2 w6) (areDice_of dice_01) (by decide) common_01).mono ?_
  rintro e w8 ⟨ov, rfl, hor, hb8⟩
  rw [nums_01] at hor
  obtain ⟨go_, ko, rfl, hgo, hco⟩ := hor.form (by decide)
  have co := hco 0 1 rfl
  have HB8 := Lib.hid (show Below w1.heap.size w1 w8 from keepC2 ((((HB6.out.alloc HB6.out.size _).alloc (by have := HB6.out.size; simp; omega) _).alloc (by have := HB6.out.size; simp; omega) _)) (by have := HB6.out.size; simp; omega) hb8)
  clear hb8 hco hor
  go_wp2_with fail
  refine (show Calls Try.prog 21 #[.slice none 0 0] w8 _ from Check_any none [] 0 w8.heap.size w8 RDice.nil_ (by decide) (fun d h => by cases h)).mono ?_
  rintro e w9 ⟨rfl, n9, rfl⟩
  rw [check_nil]
  have HB9 := Lib.hid (Below.drewN_ (HB1.out.trans (HB8.out.mono HB1.out.size)) n9)
  clear co
  go_wp2_with fail
  go_ret
  exact ⟨rfl, HB9.out⟩

end Go.Proofs.Ytkkholagmjcgiaa
