/- For any lists of integers: the function DiceSame answers true: of the dice made of them Same says just whether the reference's ways are the same, and of dice and the same dice in the other order it says yes. No conditions. -/
import Derived.Test.YtkkholagmjcgiaaSame2
import Derived.Test.YtkkholagmjcgiaaAddsB
namespace Go.Proofs.Ytkkholagmjcgiaa
open Go.ChangeShapes Go.WideShapes Go.ChangeAt Go.RowKit

set_option maxRecDepth 100000 in
set_option maxHeartbeats 8000000 in
theorem same_law (A A2 : Option Addr) (l l2 : List (List Int)) (c c2 : Nat) (w : World) (hr : RDice w w.heap.size A l) (hr2 : RDice w w.heap.size A2 l2) (hl : l.length ≤ 9223372036854775807) (hl2 : l2.length ≤ 9223372036854775807) (hd : ∀ x ∈ l, x.length ≤ 9223372036854775807) (hd2 : ∀ x ∈ l2, x.length ≤ 9223372036854775807) :
    Calls Try.prog 6 #[.slice A l.length c, .slice A2 l2.length c2] w fun e w' => e = .returned (.bool true) ∧ Below w.heap.size w w' := by
  have HS := Lib.hid (show Calls Try.prog 36 #[.slice A l.length c, .int .i64 6, .int .i64 9] w (GaveD w (someL l 6 (9 : Nat))) from some_any A l c 6 9 w hr hl hd (by decide) (by decide))
  have HS2 := Lib.hid (fun (W : World) (hb : Below w.heap.size w W) => show Calls Try.prog 36 #[.slice A2 l2.length c2, .int .i64 6, .int .i64 9] W (GaveD W (someL l2 6 (9 : Nat))) from some_any A2 l2 c2 6 9 W ((hr2.below hb).more hb.size) hl2 hd2 (by decide) (by decide))
  have hdx : AreDice (someL l 6 (9 : Nat)) := someL_dice l (by decide) (by decide) (by decide)
  have hdy : AreDice (someL l2 6 (9 : Nat)) := someL_dice l2 (by decide) (by decide) (by decide)
  obtain ⟨dx, hdx'⟩ : ∃ dx, someL l 6 (9 : Nat) = dx := ⟨_, rfl⟩
  obtain ⟨dy, hdy'⟩ : ∃ dy, someL l2 6 (9 : Nat) = dy := ⟨_, rfl⟩
  rw [hdx'] at HS hdx
  rw [hdy'] at HS2 hdy
  have HDX := Lib.hid hdx
  have HDY := Lib.hid hdy
  have hpx := hdx.pos
  have hlx := hdx.len
  have hly := hdy.len
  have HA := Lib.hid awake_any
  clear hr hr2 hd hd2 hdx hdy hdx' hdy'
  go_enter Try.func6, Try.ntmps6
  go_wp2_with fail
  refine HS.out.mono ?_
  rintro e w1 ⟨v, G, K, rfl, hv, hb1⟩
  obtain ⟨Ax, cx, rfl, hcx, hrx⟩ := hv.reads
  have HB1 := Lib.hid hb1
  have HRX0 := Lib.hid hrx
  clear hv hb1 hrx HS
  go_wp2_with fail
  refine (HS2.out _ HB1.out).mono ?_
  rintro e w2 ⟨v, G2, K2, rfl, hv, hb2⟩
  obtain ⟨Ay, cy, rfl, hcy, hry⟩ := hv.reads
  have HB2 := Lib.hid (keepC HB1.out hb2)
  have HRX2 := Lib.hid ((HRX0.out.below hb2).more hb2.size)
  have HRX := Lib.hid (show ∀ W, Below w2.heap.size w2 W → RDice W W.heap.size Ax dx from fun W hb => (HRX2.out.below hb).more hb.size)
  have HRY := Lib.hid (show ∀ W, Below w2.heap.size w2 W → RDice W W.heap.size Ay dy from fun W hb => (hry.below hb).more hb.size)
  clear hv hb2 hry HS2 HRX0 HB1
  go_wp2_with fail
  refine (Same_ok Ax Ay dx dy cx cy w2 (HRX.out _ (Below.refl _ _)) (HRY.out _ (Below.refl _ _)) HDX.out HDY.out).mono ?_
  rintro e w3 ⟨rfl, hb3⟩
  have HB3 := Lib.hid hb3
  clear hb3
  obtain ⟨n, hn⟩ : ∃ n, dx.length = n := ⟨_, rfl⟩
  have HN := Lib.hid hn
  rw [hn] at hpx hlx ⊢
  obtain ⟨i0, hi, hz0, hz1, hz2⟩ := info_parts Try.info36
  clear hn
  go_wp2_with fail
  go_loopg [9, 10] n (fun gg bv iv wx => ∃ (k : Nat) (v : Value) (us : List Value), v = bv ∧ k + gg = n ∧ iv = .int .i64 ((gg : Int) - 1) ∧ us.length = k ∧ wx.ownsRow w3.heap.size 36 1 v k us ∧ Hid (∀ (i : Nat) (u : Value) (d : List Int), us[i]? = some u → dx.reverse[i]? = some d → RDie w2 w2.heap.size u d) ∧ Hid (Below w3.heap.size w3 wx))
  case atStart => exact ⟨0, _, [], rfl, by omega, rfl, rfl, ⟨by simp, .inl ⟨rfl, rfl⟩⟩, Lib.hid (fun i u d h => by simp at h), Lib.hid (Below.refl _ _)⟩
  case round =>
    obtain ⟨k, v, us, rfl, hk, rfl, hus, hown, HR, HW⟩ := hrel
    cases gk with
    | zero =>
      obtain rfl : k = n := by omega
      rw [show ((0 : Nat) : Int) - 1 = -1 from rfl]
      have HBW := Lib.hid (keepC HB3.out HW.out)
      obtain ⟨Ab, cb, e6, hrb⟩ := both_dice (w := w2) (dx := dx.reverse) (dy := []) (us1 := us) (us2 := []) (by rw [List.length_reverse, HN.out]; simpa using hown) (by rw [List.length_reverse, HN.out]; exact hus) rfl HR.out (fun i u d h => by simp at h) HBW.out
      subst e6
      rw [List.append_nil] at hrb ⊢
      have hlr : dx.reverse.length = k := by rw [List.length_reverse]; exact HN.out
      have HLR := Lib.hid hlr
      rw [hlr]
      have HRB := Lib.hid hrb
      clear hown hus hrb hlr
      go_wp2_with fail
      refine (show Calls Try.prog 26 #[.slice Ax k cx, .slice Ab k cb] wr fun e w' => e = .returned (.tuple #[.bool true, .int .i64 0]) ∧ Below wr.heap.size wr w' from by
        have h9 := Same_ok Ax Ab dx dx.reverse cx cb wr (HRX.out _ HBW.out) HRB.out HDX.out (dice_reverse HDX.out)
        rw [same_reverse HDX.out, HLR.out, HN.out] at h9
        exact h9).mono ?_
      rintro e w5 ⟨rfl, hb5⟩
      have HB5 := Lib.hid (keepC HBW.out hb5)
      clear hb5
      go_wp2_with fail
      refine (show Calls Try.prog 39 #[.slice Ax k cx] w5 _ from by
        have h9 := RWays_any Ax dx cx w5 (HRX.out _ HB5.out) HDX.out.len HDX.out.die
        rw [HN.out] at h9
        exact h9).mono ?_
      rintro e w6 ⟨ga, rfl, hga, hbxa, hb6⟩
      have HB6 := Lib.hid (keepC HB5.out hb6)
      have HXA := Lib.hid hbxa
      clear hbxa hb6
      go_wp2_with fail
      refine (RWays_any Ay dy cy w6 (HRY.out _ HB6.out) HDY.out.len HDY.out.die).mono ?_
      rintro e w7 ⟨gb, rfl, hgb, hbxb, hb7⟩
      have HB7 := Lib.hid (keepC HB6.out hb7)
      have HXA7 := Lib.hid (HXA.out.below hb7 HXA.out.lt)
      have HXB := Lib.hid hbxb
      have hma := maxW_le HDX.out.die
      have hmb := maxW_le HDY.out.die
      rw [HN.out] at hma
      have HSR := Lib.hid (same_rows HDX.out HDY.out)
      clear hbxb hb7
      go_wp2_with fail
      refine (RSame_any ga gb _ _ _ _ w7 HXA7.out HXB.out (by omega) (by omega)).mono ?_
      rintro e w8 ⟨rfl, n8, hw8⟩
      have HB8 := Lib.hid (show Below w2.heap.size w2 w8 by rw [hw8]; exact Below.drewN_ HB7.out n8)
      rw [HSR.out]
      clear hw8
      obtain ⟨b, hb⟩ : ∃ b, sameB dx dy = b := ⟨_, rfl⟩
      rw [hb]
      clear hb
      cases b
      all_goals
        go_wp2_with fail
        refine (HA.out _).mono ?_
        rintro e w9 ⟨rfl, hb9⟩
        have HB9 := Lib.hid (keepC (keepC HB2.out HB8.out) hb9)
        clear hb9
        go_wp2_with fail
        go_ret
        exact ⟨rfl, HB9.out⟩
    | succ g =>
      rw [show ((g + 1 : Nat) : Int) - 1 = (g : Int) from by omega]
      obtain ⟨b, o, a, cc, d, hA, hb, hx, hcx2, hdc, hrd⟩ := HRX2.out.at_ (k := g) (by rw [HN.out]; omega)
      subst hA
      have HBW := Lib.hid (keepC HB3.out HW.out)
      have hcell : wr.cell? ⟨b, o + g, none⟩ = some (.slice a d.length cc) := (HBW.out.cell (p := ⟨b, o + g, none⟩) hb).trans hcx2
      have HRD := Lib.hid (show RDie w2 w2.heap.size (.slice a d.length cc) d from ⟨a, cc, rfl, hdc, hrd⟩)
      have HRV := Lib.hid (show dx.reverse[k]? = some d by
        rw [List.getElem?_reverse (by rw [HN.out]; omega), HN.out, show n - 1 - k = g by omega]
        exact hx)
      have hcn : ∀ (x : Value) (j : Nat) (u : Value), [x][j]? = some u → (wr.alloc (Obj.cells #[x] 36)).cell? ((⟨wr.heap.size, 0, none⟩ : Addr).add j) = some u := fun x j u hu => by
        cases j with
        | zero =>
          have e : x = u := by simpa using hu
          subst e
          exact (Box.new wr 36 #[x]).cell 0
        | succ j => simp at hu
      have HCN := Lib.hid hcn
      have HOWN := Lib.hid hown
      have HUS := Lib.hid hus
      have hsz : w3.heap.size ≤ (wr.alloc (Obj.cells #[Value.slice a d.length cc] 36)).heap.size := by have := HW.out.size; simp; omega
      have HSZ := Lib.hid hsz
      have hgn : (g : Int) < (n : Int) := by omega
      have hg0 : (0 : Int) ≤ (g : Int) := by omega
      have hk1 : k + 1 ≤ maxLen := by unfold maxLen; omega
      have hk2 : (k + 1) * 24 ≤ 140737488355328 := by omega
      clear hx hcx2 hrd hcn hown hus hsz
      go_wp2_with (first
        | (at_builtin; (refine wpList_append_own_at _ rfl _ _ 22 rfl w3.heap.size 36 i0 (.slice none 0 0) 1 24 Try.underlying22 hi hz0 hz1 hz2 rfl (by decide) _ _ _ rfl (World.ownsRow.alloc HOWN.out _) ⟨wr.heap.size, 0, none⟩ 1 1 [.slice a d.length cc] rfl rfl (HCN.out _) (by simp [Value.oneCell']) hk1 hk2 HSZ.out ?_; intro v5 w5 ht5 hg5 _ hat5; have HT5 := Lib.hid ht5; have HG5 := Lib.hid ((HW.out.alloc HW.out.size _).grown hg5 HSZ.out (fun j hj => (slices_blk HOWN.out j hj).1)); clear ht5 hg5 hat5)))
      go_roundg g
      case measure => omega
      case rel =>
        refine ⟨k + 1, v5, us ++ [.slice a d.length cc], rfl, by omega, rfl, by rw [List.length_append, HUS.out]; rfl, HT5.out, Lib.hid fun i u d' hu hd' => ?_, HG5⟩
        rcases Nat.lt_or_ge i us.length with hlt | hge
        · rw [List.getElem?_append_left hlt] at hu
          exact HR.out i u d' hu hd'
        · rw [List.getElem?_append_right hge] at hu
          have e : i = k := by
            rcases Nat.eq_zero_or_pos (i - us.length) with h0 | h0
            · have := HUS.out
              omega
            · rw [List.getElem?_eq_none (by simp; omega)] at hu
              cases hu
          subst e
          have e2 : i - us.length = 0 := by have := HUS.out; omega
          rw [e2] at hu
          have e3 : Value.slice a d.length cc = u := by simpa using hu
          subst e3
          rw [HRV.out] at hd'
          injection hd' with hd'
          subst hd'
          exact HRD.out


set_option maxRecDepth 100000 in
theorem same_row (os : Os) (started : os.Started) (H : Type) (enc : TypeId × Value → H) :
    ReturnsInHanded {} Try.checked os 6 .any (Rows.diceSameSpec.pre6 enc Try.prog Try.f6 Rows.diceSameRow.domain false) (Rows.diceSameSpec.post enc Try.prog Try.f6 false true false false) := by
  refine returnsInHanded_of_change (C := Try.checked) ownNone started (by kernel_rfl) Try.func6
    (ChangeSpec.witness6 (enc := enc) (C := Try.checked) false ⟨#[], #[.slice none 0 0, .slice none 0 0], []⟩ 8 (by kernel_rfl) (by kernel_rfl) (by kernel_rfl) (by kernel_rfl)) ?_
  intro W base args ds gs before hval hW _ _
  have hW2 := hW
  obtain ⟨p, q, hA, hV, rfl, _, _⟩ := hW2
  have hA : DataW.TrodAll enc Try.prog W 0 (fun _ => true) true Try.f6.params.toList args.toList ds p := hA
  have hAk := hA
  have hval : ∀ (j : Nat) t v, Try.f6.params[j]? = some t → args[j]? = some v → Value.okWide Try.prog W .any base t v := hval
  rw [Try.params6] at hA hval
  obtain ⟨v0, vs0, d0, ds0, p0, q0, hargs, rfl, rfl, h0, r0⟩ := trodAll_cons hA
  obtain ⟨v1, vs1, d1, ds1, p1, q1, rfl, rfl, rfl, h1, r1⟩ := trodAll_cons r0
  obtain ⟨rfl, rfl, rfl⟩ := trodAll_nil r1
  obtain rfl : args = #[v0, v1] := by cases args; simp_all
  obtain ⟨rfl, rfl⟩ := trodVars_none hV
  obtain ⟨A0, z0, c0, rfl, _, m0, hr0, e0⟩ := open_dice (hval 0 22 v0 rfl rfl) h0
  obtain ⟨A1, z1, c1, rfl, _, m1, hr1, e1⟩ := open_dice (hval 1 22 v1 rfl rfl) h1
  clear hA hval
  simp only [List.append_nil] at hW hAk
  refine (same_law A0 A1 z0 z1 c0 c1 W hr0 hr1 m0 m1 e0 e1).mono fun e W' ⟨he, hb⟩ => ?_
  subst he
  exact ⟨_, rfl, post_bool hW hb (by rw [Try.params6]; decide) hAk (fun _ => rfl) rfl rfl (by kernel_rfl)⟩

theorem same_holds : Rows.DiceSameSaid :=
  OpenClaim.holds_of_wide 6 Try.f6 rfl rfl rfl rfl rfl rfl rfl ⟨rfl, rfl, rfl, rfl, rfl⟩ rfl rfl rfl rfl rfl (by kernel_rfl) Try.func6 (by kernel_rfl)
    (of_decide_eq_true (by kernel_rfl)) (by unfold Func.isWrapper; first | (rw [if_pos (by decide +kernel)]; kernel_rfl) | (rw [if_neg (by decide +kernel)]; exact ⟨rfl, rfl⟩))
    (fun os started H enc _ => same_row os started H enc)

#print axioms same_holds
end Go.Proofs.Ytkkholagmjcgiaa
