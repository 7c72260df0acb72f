/- For any lists of integers: the function DiceChecks answers true: Check returns just the error of the reference's Check for copies of them; where that is an error every other function of package dice returns it, too, and zero values besides. No conditions. -/
import Derived.Test.YtkkholagmjcgiaaBad
import Derived.Test.YtkkholagmjcgiaaRCheck
import Derived.Test.YtkkholagmjcgiaaBeats2
import Derived.Test.YtkkholagmjcgiaaAwake
import Derived.Test.YtkkholagmjcgiaaOpen
namespace Go.Proofs.Ytkkholagmjcgiaa
open Go.ChangeShapes Go.WideShapes Go.ChangeAt Go.RowKit

theorem ownL_len (l : List (List Int)) : (ownL l).length ≤ 7 ∧ ∀ d ∈ ownL l, d.length ≤ 9 := by
  unfold ownL
  refine ⟨by simp; omega, fun d hd => ?_⟩
  obtain ⟨x, _, rfl⟩ := List.mem_map.1 hd
  simp
  omega
theorem dice_one : checkL [[1]] = 0 := by decide +kernel
theorem dice_lit1 (w : World) : RDice ((w.alloc (Obj.cells #[Value.int .i64 1] 3)).alloc (Obj.cells #[Value.slice (some ⟨w.heap.size, 0, none⟩) 1 1] 36))
    ((w.alloc (Obj.cells #[Value.int .i64 1] 3)).alloc (Obj.cells #[Value.slice (some ⟨w.heap.size, 0, none⟩) 1 1] 36)).heap.size (some ⟨w.heap.size + 1, 0, none⟩) [[1]] := by
  have h1 : Box (w.alloc (Obj.cells #[Value.int .i64 1] 3)) w.heap.size 3 #[Value.int .i64 1] := Box.new _ _ _
  have h2 := Box.new (w.alloc (Obj.cells #[Value.int .i64 1] 3)) 36 #[Value.slice (some ⟨w.heap.size, 0, none⟩) 1 1]
  have e : (w.alloc (Obj.cells #[Value.int .i64 1] 3)).heap.size = w.heap.size + 1 := by simp
  rw [e] at h2
  have h3 := h1.alloc (Obj.cells #[Value.slice (some ⟨w.heap.size, 0, none⟩) 1 1] 36)
  refine ⟨[Value.slice (some ⟨w.heap.size, 0, none⟩) 1 1], rfl, fun j u hu => ⟨_, 0, rfl, h2.lt, ?_⟩, fun i v x hv hx => ?_⟩
  · rw [Nat.zero_add, h2.cell j]
    simpa using hu
  · match i with
    | 0 =>
      simp at hv hx
      subst hv hx
      refine ⟨_, _, rfl, by decide, fun j u hu => ⟨_, 0, rfl, h3.lt, ?_⟩⟩
      rw [Nat.zero_add, h3.cell j]
      simpa using hu
    | i + 1 => simp at hv

set_option maxRecDepth 100000 in
set_option maxHeartbeats 8000000 in
theorem checks_law (A : Option Addr) (l : List (List Int)) (c : Nat) (w : World) (hr : RDice w w.heap.size A l) (hl : l.length ≤ 9223372036854775807) (hd : ∀ x ∈ l, x.length ≤ 9223372036854775807) :
    Calls Try.prog 3 #[.slice A l.length c] w fun e w' => e = .returned (.bool true) ∧ Below w.heap.size w w' := by
  have HS := Lib.hid (own_any A l c w hr hl hd)
  have HLN := Lib.hid (ownL_len l)
  obtain ⟨ds, hds⟩ : ∃ ds, ownL l = ds := ⟨_, rfl⟩
  rw [hds] at HS HLN
  have hl7 : ds.length ≤ 1000 := by have := HLN.out.1; omega
  have HD9 := Lib.hid (show ∀ d ∈ ds, d.length ≤ 1000 from fun d h => by have := HLN.out.2 d h; omega)
  have HA := Lib.hid awake_any
  clear hr hds hd HLN
  go_enter Try.func3, Try.ntmps3
  go_wp2_with fail
  refine HS.out.mono ?_
  rintro e w1 ⟨Ax, cx, rfl, hcx, hrx, hb1⟩
  have HB1 := Lib.hid hb1
  have HRX := Lib.hid (show ∀ W, Below w1.heap.size w1 W → RDice W W.heap.size Ax ds from fun W hb => (hrx.below hb).more hb.size)
  clear hb1 hrx HS hcx
  go_wp2_with fail
  refine (RCheck_any Ax ds cx _ w1 (HRX.out _ (Below.refl _ _)) hl7 HD9.out).mono ?_
  rintro e w' ⟨rfl, n, rfl⟩
  go_wp2_with fail
  refine (Check_any Ax ds cx _ _ (HRX.out _ (Below.drewN_ (Below.refl _ _) n)) (by omega) (fun d h => by have := HD9.out d h; omega)).mono ?_
  rintro e w' ⟨rfl, n2, rfl⟩
  obtain ⟨w2, hw2⟩ : ∃ w2, (w1.drewN n).drewN n2 = w2 := ⟨_, rfl⟩
  have HB2 := Lib.hid (show Below w1.heap.size w1 w2 by rw [← hw2]; exact Below.drewN_ (Below.drewN_ (Below.refl _ _) n) n2)
  rw [hw2]
  clear hw2
  by_cases hk : checkL ds = 0
  · rw [hk]
    clear hk
    go_wp2_with fail
    refine (HA.out _).mono ?_
    rintro e w7 ⟨rfl, hb7⟩
    have HB7 := Lib.hid (keepC (keepC HB1.out HB2.out) hb7)
    clear hb7
    go_wp2_with fail
    go_ret
    exact ⟨rfl, HB7.out⟩
  · obtain ⟨k, hk2⟩ : ∃ k, checkL ds = k := ⟨_, rfl⟩
    have H1 := Lib.hid (fun W (hb : Below w1.heap.size w1 W) => Results_bad Ax ds cx W (HRX.out W hb) hl7 HD9.out hk)
    have H2 := Lib.hid (fun W (hb : Below w1.heap.size w1 W) => Sums_bad Ax ds cx W (HRX.out W hb) hl7 HD9.out hk)
    have H3 := Lib.hid (fun W (hb : Below w1.heap.size w1 W) => Ways_bad Ax ds cx W (HRX.out W hb) hl7 HD9.out hk)
    have H4 := Lib.hid (fun W A2 n2 c2 (hb : Below w1.heap.size w1 W) => Same_bad1 Ax A2 ds cx n2 c2 W (HRX.out W hb) hl7 HD9.out hk)
    have H5 := Lib.hid (fun W (hb : Below w1.heap.size w1 W) => Beats_bad Ax ds cx W (HRX.out W hb) hl7 HD9.out hk)
    have H6 := Lib.hid (fun W (hb : Below w1.heap.size w1 W) => Ring_bad Ax ds cx W (HRX.out W hb) hl7 HD9.out hk)
    have H7 := Lib.hid (fun W (hb : Below w1.heap.size w1 W) => Rank_bad Ax ds cx W (HRX.out W hb) hl7 HD9.out hk)
    have H8 := Lib.hid (fun W (hb : Below w1.heap.size w1 W) => Orders_bad Ax ds cx W (HRX.out W hb) hl7 HD9.out hk)
    have H9 := Lib.hid (fun W (hb : Below w1.heap.size w1 W) => Fair_bad Ax ds cx W (HRX.out W hb) hl7 HD9.out hk)
    have H10 := Lib.hid (fun W A2 c2 (h0 : RDice W W.heap.size A2 [[1]]) (hb : Below w1.heap.size w1 W) => Same_bad2 A2 Ax [[1]] ds c2 cx W h0 (areDice_of dice_one) (HRX.out W hb) hl7 HD9.out hk)
    rw [hk2] at hk H1 H2 H3 H4 H5 H6 H7 H8 H9 H10 ⊢
    have hne : (k == 0) = false := by rw [beq_eq_false_iff_ne]; exact hk
    have hne2 : (k != 0) = true := by simp [bne, hne]
    clear hk hk2
    go_wp2_with fail
    refine (H1.out _ HB2.out).mono ?_
    rintro e w3 ⟨rfl, hb⟩
    have HB3 := Lib.hid (keepC HB2.out hb)
    clear hb HB2 H1
    go_wp2_with fail
    refine (H2.out _ HB3.out).mono ?_
    rintro e w4 ⟨rfl, hb⟩
    have HB4 := Lib.hid (keepC HB3.out hb)
    clear hb HB3 H2
    go_wp2_with fail
    refine (H3.out _ HB4.out).mono ?_
    rintro e w5 ⟨rfl, hb⟩
    have HB5 := Lib.hid (keepC HB4.out hb)
    clear hb HB4 H3
    go_wp2_with fail
    have HB5a := Lib.hid ((HB5.out.alloc HB5.out.size (Obj.cells #[Value.int .i64 1] 3)).alloc (by have := HB5.out.size; simp; omega) (Obj.cells #[Value.slice (some ⟨w5.heap.size, 0, none⟩) 1 1] 36))
    refine (H4.out _ _ _ _ HB5a.out).mono ?_
    rintro e w6 ⟨rfl, hb⟩
    have HB6 := Lib.hid (keepC HB5a.out hb)
    clear hb HB5 HB5a H4
    go_wp2_with fail
    refine (H5.out _ HB6.out).mono ?_
    rintro e w7 ⟨rfl, hb⟩
    have HB7 := Lib.hid (keepC HB6.out hb)
    clear hb HB6 H5
    go_wp2_with fail
    refine (H6.out _ HB7.out).mono ?_
    rintro e w8 ⟨rfl, hb⟩
    have HB8 := Lib.hid (keepC HB7.out hb)
    clear hb HB7 H6
    go_wp2_with fail
    refine (H7.out _ HB8.out).mono ?_
    rintro e w9 ⟨rfl, hb⟩
    have HB9 := Lib.hid (keepC HB8.out hb)
    clear hb HB8 H7
    go_wp2_with fail
    refine (H8.out _ HB9.out).mono ?_
    rintro e w10 ⟨rfl, hb⟩
    have HB10 := Lib.hid (keepC HB9.out hb)
    clear hb HB9 H8
    go_wp2_with fail
    refine (H9.out _ HB10.out).mono ?_
    rintro e w11 ⟨rfl, hb⟩
    have HB11 := Lib.hid (keepC HB10.out hb)
    clear hb HB10 H9
    go_wp2_with fail
    have HB11a := Lib.hid ((HB11.out.alloc HB11.out.size (Obj.cells #[Value.int .i64 1] 3)).alloc (by have := HB11.out.size; simp; omega) (Obj.cells #[Value.slice (some ⟨w11.heap.size, 0, none⟩) 1 1] 36))
    refine (H10.out _ _ 1 (dice_lit1 w11) HB11a.out).mono ?_
    rintro e w12 ⟨rfl, hb⟩
    have HB12 := Lib.hid (keepC HB1.out (keepC HB11a.out hb))
    clear hb HB11 HB11a H10
    go_wp2_with fail
    refine (HA.out _).mono ?_
    rintro e w13 ⟨rfl, hb⟩
    have HB13 := Lib.hid (keepC HB12.out hb)
    clear hb
    go_wp2_with fail
    go_ret
    exact ⟨rfl, HB13.out⟩

set_option maxRecDepth 100000 in
theorem checks_row (os : Os) (started : os.Started) (H : Type) (enc : TypeId × Value → H) :
    ReturnsInHanded {} Try.checked os 3 .any (Rows.diceChecksSpec.pre6 enc Try.prog Try.f3 Rows.diceChecksRow.domain false) (Rows.diceChecksSpec.post enc Try.prog Try.f3 false true false false) := by
  refine returnsInHanded_of_change (C := Try.checked) ownNone started (by kernel_rfl) Try.func3
    (ChangeSpec.witness6 (enc := enc) (C := Try.checked) false ⟨#[], #[.slice none 0 0], []⟩ 8 (by kernel_rfl) (by kernel_rfl) (by kernel_rfl) (by kernel_rfl)) ?_
  intro W base args ds gs before hval hW _ _
  have hW2 := hW
  obtain ⟨p, q, hA, hV, rfl, _, _⟩ := hW2
  have hA : DataW.TrodAll enc Try.prog W 0 (fun _ => true) true Try.f3.params.toList args.toList ds p := hA
  have hAk := hA
  have hval : ∀ (j : Nat) t v, Try.f3.params[j]? = some t → args[j]? = some v → Value.okWide Try.prog W .any base t v := hval
  rw [Try.params3] at hA hval
  obtain ⟨v0, vs0, d0, ds0, p0, q0, hargs, rfl, rfl, h0, r0⟩ := trodAll_cons hA
  obtain ⟨rfl, rfl, rfl⟩ := trodAll_nil r0
  obtain rfl : args = #[v0] := by cases args; simp_all
  obtain ⟨rfl, rfl⟩ := trodVars_none hV
  obtain ⟨A0, z0, c0, rfl, _, m0, hr0, e0⟩ := open_dice (hval 0 22 v0 rfl rfl) h0
  clear hA hval
  simp only [List.append_nil] at hW hAk
  refine (checks_law A0 z0 c0 W hr0 m0 e0).mono fun e W' ⟨he, hb⟩ => ?_
  subst he
  exact ⟨_, rfl, post_bool hW hb (by rw [Try.params3]; decide) hAk (fun _ => rfl) rfl rfl (by kernel_rfl)⟩

theorem checks_holds : Rows.DiceChecksSaid :=
  OpenClaim.holds_of_wide 3 Try.f3 rfl rfl rfl rfl rfl rfl rfl ⟨rfl, rfl, rfl, rfl, rfl⟩ rfl rfl rfl rfl rfl (by kernel_rfl) Try.func3 (by kernel_rfl)
    (of_decide_eq_true (by kernel_rfl)) (by unfold Func.isWrapper; first | (rw [if_pos (by decide +kernel)]; kernel_rfl) | (rw [if_neg (by decide +kernel)]; exact ⟨rfl, rfl⟩))
    (fun os started H enc _ => checks_row os started H enc)

#print axioms checks_holds
end Go.Proofs.Ytkkholagmjcgiaa
