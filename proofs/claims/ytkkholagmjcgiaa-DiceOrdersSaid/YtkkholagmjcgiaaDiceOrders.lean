/- For any lists of integers and any bool: the function DiceOrders answers true: of the dice made of them Orders returns, for each order, the number of results in which the sides rise in it, as the reference counts them, and Fair whether all are equal; with more than four dice both return ErrLong, and with a side that two dice share ErrDie. No conditions. -/
import Derived.Test.YtkkholagmjcgiaaROrders
import Derived.Test.YtkkholagmjcgiaaOrdErr
import Derived.Test.YtkkholagmjcgiaaAddsB
import Derived.Test.YtkkholagmjcgiaaAwake
import Derived.Test.YtkkholagmjcgiaaOpen
namespace Go.Proofs.Ytkkholagmjcgiaa
open Go.ChangeShapes Go.WideShapes Go.ChangeAt Go.RowKit

def fairTo (O : List Int) (k : Nat) : Bool := (O.take k).all fun z => z == O.getD 0 0
theorem fairTo_succ {O : List Int} {k : Nat} {z y : Int} (hz : O[k]? = some z) (hy : O[0]? = some y) : fairTo O (k + 1) = (fairTo O k && (z == y)) := by
  unfold fairTo
  have e : O.getD 0 0 = y := by simp [List.getD, hy]
  rw [take_snoc hz, List.all_append, e]
  simp
theorem fairTo_all {O : List Int} (h1 : 1 ≤ O.length) : fairTo O O.length = fairB O := by
  unfold fairTo fairB
  rw [List.take_length, Bool.eq_iff_iff]
  have e : O.getD 0 0 = O[0] := by
    rw [List.getD_eq_getElem?_getD, List.getElem?_eq_getElem (by omega)]
    rfl
  rw [e]
  simp only [List.all_eq_true, decide_eq_true_eq, beq_iff_eq]
  refine ⟨fun h z hz y hy => (h z hz).trans (h y hy).symm, fun h z hz => h z hz _ (List.getElem_mem _)⟩
theorem ords_pos {n : Nat} (h1 : 1 ≤ n) (h4 : n ≤ 4) : 1 ≤ (ordersL n).length := by
  match n, h1, h4 with
  | 1, _, _ => decide +kernel
  | 2, _, _ => decide +kernel
  | 3, _, _ => decide +kernel
  | 4, _, _ => decide +kernel

set_option maxRecDepth 100000 in
set_option maxHeartbeats 8000000 in
theorem orders_law (A : Option Addr) (l : List (List Int)) (c : Nat) (b : Bool) (w : World) (hr : RDice w w.heap.size A l) (hl : l.length ≤ 9223372036854775807) (hd : ∀ x ∈ l, x.length ≤ 9223372036854775807) :
    Calls Try.prog 12 #[.slice A l.length c, .bool b] w fun e w' => e = .returned (.bool true) ∧ Below w.heap.size w w' := by
  have HS := Lib.hid (show Calls Try.prog 36 #[.slice A l.length c, .int .i64 6, .int .i64 20] w (GaveD w (someL l 6 (20 : Nat))) from some_any A l c 6 20 w hr hl hd (by decide) (by decide))
  have HSA := Lib.hid (fun (W : World) (hb : Below w.heap.size w W) => show Calls Try.prog 52 #[.slice A l.length c, .int .i64 4] W (GaveD W (apartL (someL l 4 (11 : Nat)))) from apart_any A l c 4 W ((hr.below hb).more hb.size) hl hd (by decide) (by decide))
  have HD1 := Lib.hid (show AreDice (someL l 6 (20 : Nat)) from someL_dice l (by decide) (by decide) (by decide))
  have HD2 := Lib.hid (show AreDice (apartL (someL l 4 (11 : Nat))) from apartL_dice5 (someL_dice l (by decide) (by decide) (by decide)) (by have := someL_many l (many := 4) (11 : Nat) (by decide); omega) (fun d h => someL_in l d h))
  have HA := Lib.hid awake_any
  clear hr hd
  go_enter Try.func12, Try.ntmps12
  go_wp2_with fail
  refine HS.out.mono ?_
  rintro e w1 ⟨v, G, K, rfl, hv, hb1⟩
  obtain ⟨Ax, cx, rfl, hcx, hrx⟩ := hv.reads
  have HB1 := Lib.hid hb1
  have HRX := Lib.hid hrx
  clear hv hb1 hrx HS hcx
  go_upto_if 16 with fail
  go_cut [5] (fun v5 wx => ∃ (xs : List (List Int)) (Ay : Option Addr) (cy : Nat), v5 = .slice Ay xs.length cy ∧ Hid (AreDice xs) ∧ Hid (RDice wx wx.heap.size Ay xs) ∧ Hid (Below w.heap.size w wx))
  case first =>
    cases b with
    | true =>
      go_wp2_with fail
      refine (HSA.out _ HB1.out).mono ?_
      rintro e w2 ⟨v2, G2, K2, rfl, hv2, hb2⟩
      obtain ⟨Ay, cy, rfl, hcy, hry⟩ := hv2.reads
      have HB2 := Lib.hid (keepC HB1.out hb2)
      have HRY := Lib.hid hry
      clear hv2 hb2 hry hcy
      go_wp2_with fail
      go_meet
      exact ⟨_, Ay, cy, rfl, HD2, HRY, HB2⟩
    | false =>
      go_wp2_with fail
      go_meet
      exact ⟨_, Ax, cx, rfl, HD1, HRX, HB1⟩
  case rest =>
    obtain ⟨xs, Ay, cy, rfl, HD0, HRY0, HB20⟩ := hcut
    obtain ⟨w2, rfl⟩ : ∃ w2 : World, w2 = wc := ⟨_, rfl⟩
    have HD := HD0
    have HB2 := HB20
    have HRY := Lib.hid (fun (W : World) (hb : Below w2.heap.size w2 W) => ((HRY0.out.below hb).more hb.size : RDice W W.heap.size Ay xs))
    clear HD0 HRY0 HB20 HD1 HD2 HSA HRX HB1
    have hx6 := HD.out.len
    have hx1 := HD.out.pos
    rcases Nat.lt_or_ge 4 xs.length with h4 | h4
    · have h4i : (4 : Int) < (xs.length : Int) := by omega
      have hdd : decide ((4 : Int) < (xs.length : Int)) = true := decide_eq_true h4i
      go_wp2_with fail
      refine (Orders_err Ay xs cy w2 (HRY.out _ (Below.refl _ _)) HD.out 2 (.inl ⟨h4, rfl⟩)).mono ?_
      rintro e w3 ⟨rfl, hb3⟩
      have HB3 := Lib.hid hb3
      clear hb3
      go_wp2_with fail
      refine (Fair_err Ay xs cy w3 (HRY.out _ HB3.out) HD.out 2 (.inl ⟨h4, rfl⟩)).mono ?_
      rintro e w4 ⟨rfl, hb4⟩
      have HB4 := Lib.hid (keepC HB3.out hb4)
      clear hb4
      go_wp2_with fail
      refine (HA.out _).mono ?_
      rintro e w9 ⟨rfl, hb9⟩
      have HB9 := Lib.hid (keepC HB2.out (keepC HB4.out hb9))
      clear hb9
      go_wp2_with fail
      go_ret
      exact ⟨rfl, HB9.out⟩
    · have h4i : ¬ (4 : Int) < (xs.length : Int) := by omega
      have hdd : decide ((4 : Int) < (xs.length : Int)) = false := decide_eq_false h4i
      have HAB := Lib.hid (apB_common xs)
      cases hco : commonL xs with
      | true =>
        rw [hco] at HAB
        go_wp2_with fail
        refine (Orders_err Ay xs cy w2 (HRY.out _ (Below.refl _ _)) HD.out 10 (.inr ⟨h4, hco, rfl⟩)).mono ?_
        rintro e w3 ⟨rfl, hb3⟩
        have HB3 := Lib.hid hb3
        clear hb3
        go_wp2_with fail
        refine (Fair_err Ay xs cy w3 (HRY.out _ HB3.out) HD.out 10 (.inr ⟨h4, hco, rfl⟩)).mono ?_
        rintro e w4 ⟨rfl, hb4⟩
        have HB4 := Lib.hid (keepC HB3.out hb4)
        clear hb4
        go_wp2_with fail
        refine (RApart_any Ay xs cy _ w4 (HRY.out _ HB4.out) hx6 (fun d h => (HD.out.die d h).ok.1)).mono ?_
        rintro e w5 ⟨rfl, n, hw5⟩
        rw [HAB.out]
        have HB5 := Lib.hid (keepC HB4.out (show Below w4.heap.size w4 w5 by rw [hw5]; exact Below.drewN_ (Below.refl _ _) n))
        clear hw5
        go_wp2_with fail
        refine (HA.out _).mono ?_
        rintro e w9 ⟨rfl, hb9⟩
        have HB9 := Lib.hid (keepC HB2.out (keepC HB5.out hb9))
        clear hb9
        go_wp2_with fail
        go_ret
        exact ⟨rfl, HB9.out⟩
      | false =>
        rw [hco] at HAB
        have HCO := Lib.hid hco
        have hop := ords_pos hx1 h4
        obtain ⟨O, hO⟩ : ∃ O, numsL xs (ordersL xs.length) = O := ⟨_, rfl⟩
        have HO := Lib.hid hO
        have hO1 : 1 ≤ O.length := by rw [← hO]; unfold numsL; rw [List.length_map]; exact hop
        have hOl : O.length ≤ 24 := by rw [← hO]; unfold numsL; rw [List.length_map]; exact orders_len hx1 h4
        have HOP := Lib.hid hop
        clear hco hO hop
        go_wp2_with fail
        refine (Orders_ok Ay xs cy w2 (HRY.out _ (Below.refl _ _)) HD.out h4 HCO.out).mono ?_
        rintro e w3 ⟨v3, rfl, ho3, hb3⟩
        rw [HO.out] at ho3
        obtain ⟨Ao, co, rfl, hro⟩ := ho3.reads
        have HB3 := Lib.hid hb3
        have HRO := Lib.hid hro
        clear ho3 hb3 hro
        go_wp2_with fail
        refine (Fair_ok Ay xs cy w3 (HRY.out _ HB3.out) HD.out h4 HCO.out HOP.out).mono ?_
        rintro e w4 ⟨rfl, hb4⟩
        rw [HO.out]
        have HB4 := Lib.hid (keepC HB3.out hb4)
        have HRO4 := Lib.hid (fun (W : World) (hb : Below w4.heap.size w4 W) => HRO.out W (keepC hb4 hb))
        clear hb4 HRO
        go_wp2_with fail
        refine (RApart_any Ay xs cy _ w4 (HRY.out _ HB4.out) hx6 (fun d h => (HD.out.die d h).ok.1)).mono ?_
        rintro e w5 ⟨rfl, n, hw5⟩
        rw [HAB.out]
        have HB45 := Lib.hid (show Below w4.heap.size w4 w5 by rw [hw5]; exact Below.drewN_ (Below.refl _ _) n)
        have HB5 := Lib.hid (keepC HB4.out HB45.out)
        clear hw5
        go_wp2_with fail
        refine (ROrders_ok Ay xs cy w5 (HRY.out _ HB5.out) HD.out h4).mono ?_
        rintro e w6 ⟨v6, rfl, ho6, hb6⟩
        rw [HO.out] at ho6
        obtain ⟨Ar, cr, rfl, hrr⟩ := ho6.reads
        have HB6 := Lib.hid (keepC HB5.out hb6)
        have HRO6 := Lib.hid (fun (W : World) (hb : Below w6.heap.size w6 W) => HRO4.out W (keepC HB45.out (keepC hb6 hb)))
        have HRR := Lib.hid hrr
        clear ho6 hb6 hrr HRO4 HB45 HB3 HB4 HB5
        have HFA := Lib.hid (fairTo_all hO1)
        obtain ⟨F, hF⟩ : ∃ F, fairB O = F := ⟨_, rfl⟩
        rw [hF] at HFA ⊢
        obtain ⟨y, hy⟩ : ∃ z, O[0]? = some z := ⟨_, List.getElem?_eq_getElem (by omega)⟩
        obtain ⟨g1, rfl, _⟩ := HRR.out _ (Below.refl _ _) 0 y hy
        have HY := Lib.hid hy
        have hO0 : 0 < O.length := by omega
        have hO0i : (0 : Int) < (O.length : Int) := by omega
        clear hF hy
        go_wp2_with fail
        go_loopg [12, 13] O.length (fun g fr z wx => ∃ k : Nat, k + g = O.length ∧ z = .int .i64 k ∧ fr = .bool (fairTo O k) ∧ Hid (Below w6.heap.size w6 wx))
        case atStart => exact ⟨0, by omega, rfl, rfl, Lib.hid (Below.refl _ _)⟩
        case round =>
          obtain ⟨k, hk, rfl, rfl, HW⟩ := hrel
          cases gk with
          | zero =>
            obtain rfl : k = O.length := by omega
            rw [HFA.out]
            have HB7 := Lib.hid (keepC HB6.out HW.out)
            cases F
            all_goals
              go_wp2_with fail
              refine (HA.out _).mono ?_
              rintro e w9 ⟨rfl, hb9⟩
              have HB9 := Lib.hid (keepC HB2.out (keepC HB7.out hb9))
              clear hb9
              go_wp2_with fail
              go_ret
              exact ⟨rfl, HB9.out⟩
          | succ g =>
            have hkl : k < O.length := by omega
            have hkl1 : (k : Int) < (O.length : Int) := by omega
            obtain ⟨z, hz⟩ : ∃ z, O[k]? = some z := ⟨_, List.getElem?_eq_getElem hkl⟩
            obtain ⟨g2, rfl, hcz⟩ := HRO6.out wr HW.out k z hz
            obtain ⟨_, hg, hcr⟩ := HRR.out wr HW.out k z hz
            cases hg
            obtain ⟨_, hg, hcy⟩ := HRR.out wr HW.out 0 y HY.out
            cases hg
            have HST := Lib.hid (fairTo_succ hz HY.out)
            have hzz : (z != z) = false := by simp
            clear hz
            cases hf : fairTo O k with
            | true =>
              rw [hf] at HST
              clear hf
              go_wp2_with fail
              go_quiet (fail)
              go_wp2_with fail
              go_quiet (fail)
              clear hzz
              go_wp2_with fail
              go_roundg g
              case measure => omega
              case rel => exact ⟨k + 1, by omega, by go_num, by rw [HST.out]; rfl, Lib.hid (Below.drewN_ HW.out _)⟩
            | false =>
              rw [hf] at HST
              clear hf
              go_wp2_with fail
              go_quiet (fail)
              go_wp2_with fail
              go_quiet (fail)
              clear hzz
              go_wp2_with fail
              go_roundg g
              case measure => omega
              case rel => exact ⟨k + 1, by omega, by go_num, by rw [HST.out]; rfl, Lib.hid (Below.drewN_ HW.out _)⟩

set_option maxRecDepth 100000 in
theorem orders_row (os : Os) (started : os.Started) (H : Type) (enc : TypeId × Value → H) :
    ReturnsInHanded {} Try.checked os 12 .any (Rows.diceOrdersSpec.pre6 enc Try.prog Try.f12 Rows.diceOrdersRow.domain false) (Rows.diceOrdersSpec.post enc Try.prog Try.f12 false true false false) := by
  refine returnsInHanded_of_change (C := Try.checked) ownNone started (by kernel_rfl) Try.func12
    (ChangeSpec.witness6 (enc := enc) (C := Try.checked) false ⟨#[], #[.slice none 0 0, .bool false], []⟩ 8 (by kernel_rfl) (by kernel_rfl) (by kernel_rfl) (by kernel_rfl)) ?_
  intro W base args ds gs before hval hW _ _
  have hW2 := hW
  obtain ⟨p, q, hA, hV, rfl, _, _⟩ := hW2
  have hA : DataW.TrodAll enc Try.prog W 0 (fun _ => true) true Try.f12.params.toList args.toList ds p := hA
  have hAk := hA
  have hval : ∀ (j : Nat) t v, Try.f12.params[j]? = some t → args[j]? = some v → Value.okWide Try.prog W .any base t v := hval
  rw [Try.params12] at hA hval
  obtain ⟨v0, vs0, d0, ds0, p0, q0, hargs, rfl, rfl, h0, r0⟩ := trodAll_cons hA
  obtain ⟨v1, vs1, d1, ds1, p1, q1, rfl, rfl, rfl, h1, r1⟩ := trodAll_cons r0
  obtain ⟨rfl, rfl, rfl⟩ := trodAll_nil r1
  obtain rfl : args = #[v0, v1] := by cases args; simp_all
  obtain ⟨rfl, rfl⟩ := trodVars_none hV
  obtain ⟨A0, z0, c0, rfl, _, m0, hr0, e0⟩ := open_dice (hval 0 22 v0 rfl rfl) h0
  obtain ⟨a1, rfl, rfl, rfl⟩ := open_bool Try.underlying4 (hval 1 4 v1 rfl rfl) h1
  clear hA hval
  simp only [List.append_nil] at hW hAk
  refine (orders_law A0 z0 c0 a1 W hr0 m0 e0).mono fun e W' ⟨he, hb⟩ => ?_
  subst he
  exact ⟨_, rfl, post_bool hW hb (by rw [Try.params12]; decide) hAk (fun _ => rfl) rfl rfl (by kernel_rfl)⟩

theorem orders_holds : Rows.DiceOrdersSaid :=
  OpenClaim.holds_of_wide 12 Try.f12 rfl rfl rfl rfl rfl rfl rfl ⟨rfl, rfl, rfl, rfl, rfl⟩ rfl rfl rfl rfl rfl (by kernel_rfl) Try.func12 (by kernel_rfl)
    (of_decide_eq_true (by kernel_rfl)) (by unfold Func.isWrapper; first | (rw [if_pos (by decide +kernel)]; kernel_rfl) | (rw [if_neg (by decide +kernel)]; exact ⟨rfl, rfl⟩))
    (fun os started H enc _ => orders_row os started H enc)

#print axioms orders_holds
end Go.Proofs.Ytkkholagmjcgiaa
