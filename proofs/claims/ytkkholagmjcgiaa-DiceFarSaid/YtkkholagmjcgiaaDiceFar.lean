/- For any two lists of integers: the function DiceFar answers true: of the two dice made of them, with faces up to the greatest one and at most five of them, Twins returns no error and just the list that the reference's Twins returns. No conditions. -/
import Derived.Test.YtkkholagmjcgiaaDiceTwins
namespace Go.Proofs.Ytkkholagmjcgiaa
open Go.ChangeShapes Go.WideShapes Go.ChangeAt Go.RowKit

theorem die_take {x : List Int} (h : IsDie x) {n : Nat} (hn : 1 ≤ n) : IsDie (x.take n) :=
  ⟨⟨by have := h.ok.1; rw [List.length_take]; omega, fun u hu => h.ok.2 u (List.mem_of_mem_take hu)⟩, by have := h.ne; rw [List.length_take]; omega, sortB_of ((asc_of h).sublist (List.take_sublist _ _))⟩
theorem RInts.take {w : World} {B : Nat} {A : Option Addr} {zs : List Int} (h : RInts w B A zs) (n : Nat) : RInts w B A (zs.take n) := fun j u hu => by
  rw [List.map_take, List.getElem?_take] at hu
  split at hu
  · exact h j u hu
  · cases hu

set_option maxRecDepth 100000 in
set_option maxHeartbeats 4000000 in
theorem far_law (A1 A2 : Option Addr) (a b : List Int) (c1 c2 : Nat) (w : World) (h1 : RInts w w.heap.size A1 a) (h2 : RInts w w.heap.size A2 b) (hm1 : a.length ≤ 9223372036854775807) (hm2 : b.length ≤ 9223372036854775807) :
    Calls Try.prog 10 #[.slice A1 a.length c1, .slice A2 b.length c2] w fun e w' => e = .returned (.bool true) ∧ Below w.heap.size w w' := by
  have HD1 := Lib.hid (show Calls Try.prog 45 #[.slice A1 a.length c1, .int .i64 60] w _ from made_any A1 a c1 60 w h1 hm1 (by decide))
  have HD2 := Lib.hid (fun (W : World) (hb : Below w.heap.size w W) => show Calls Try.prog 45 #[.slice A2 b.length c2, .int .i64 60] W _ from made_any A2 b c2 60 W (RInts.tow h2 (Nat.le_refl _) hb) hm2 (by decide))
  have HX := Lib.hid (madeL_die a (most := ((60 : Nat) : Int)) (by decide) (by decide))
  have HY := Lib.hid (madeL_die b (most := ((60 : Nat) : Int)) (by decide) (by decide))
  obtain ⟨x, hx⟩ : ∃ x, madeL a ((60 : Nat) : Int) = x := ⟨_, rfl⟩
  obtain ⟨y, hy⟩ : ∃ y, madeL b ((60 : Nat) : Int) = y := ⟨_, rfl⟩
  rw [hx] at HD1 HX
  rw [hy] at HD2 HY
  have HA := Lib.hid awake_any
  clear h1 h2 hx hy
  go_enter Try.func10, Try.ntmps10
  go_wp2_with fail
  refine HD1.out.mono ?_
  rintro e w1 ⟨g1, k1, rfl, _, ho1, hb1⟩
  have HB1 := Lib.hid hb1
  have HO1 := Lib.hid ho1
  clear ho1 hb1 HD1
  go_wp2_with fail
  refine (HD2.out w1 HB1.out).mono ?_
  rintro e w2 ⟨g2, k2, rfl, _, ho2, hb2⟩
  have HB2 := Lib.hid (keepC HB1.out hb2)
  have HR1 := Lib.hid (RInts.tow HO1.out.reads (Nat.le_refl _) hb2)
  have HR2 := Lib.hid ho2.reads
  have hk1 := HO1.out.cap
  have hk2 := ho2.cap
  clear ho2 hb2 HD2 HO1 HB1
  obtain ⟨x', hx'⟩ : ∃ x', x.take 5 = x' := ⟨_, rfl⟩
  obtain ⟨y', hy'⟩ : ∃ y', y.take 5 = y' := ⟨_, rfl⟩
  have hlx : min (x.length : Int) 5 = (x'.length : Int) := by rw [← hx']; simp; omega
  have hly : min (y.length : Int) 5 = (y'.length : Int) := by rw [← hy']; simp; omega
  have hlx2 : (x'.length : Int) ≤ (k1 : Int) := by omega
  have hly2 : (y'.length : Int) ≤ (k2 : Int) := by omega
  have hlx0 : (0 : Int) ≤ (x'.length : Int) := by omega
  have hly0 : (0 : Int) ≤ (y'.length : Int) := by omega
  have HXT := Lib.hid (show IsDie x' by rw [← hx']; exact die_take HX.out (by decide))
  have HYT := Lib.hid (show IsDie y' by rw [← hy']; exact die_take HY.out (by decide))
  have HR1t := Lib.hid (show RInts w2 w2.heap.size (some ⟨g1, 0, none⟩) x' by rw [← hx']; exact HR1.out.take 5)
  have HR2t := Lib.hid (show RInts w2 w2.heap.size (some ⟨g2, 0, none⟩) y' by rw [← hy']; exact HR2.out.take 5)
  have hk1t : x'.length ≤ k1 := by omega
  have hk2t : y'.length ≤ k2 := by omega
  clear hx' hy' HX HY HR1 HR2 hk1 hk2
  go_wp2_with fail
  go_quiet (fail)
  obtain ⟨w3, hw3⟩ : ∃ w3, w2.drewN nq = w3 := ⟨_, rfl⟩
  have HB3 := Lib.hid (show Below w.heap.size w w3 by rw [← hw3]; exact Below.drewN_ HB2.out nq)
  have HR1 := Lib.hid (show RInts w3 w3.heap.size (some ⟨g1, 0, none⟩) x' by rw [← hw3]; exact HR1t.out.drewN nq)
  have HR2 := Lib.hid (show RInts w3 w3.heap.size (some ⟨g2, 0, none⟩) y' by rw [← hw3]; exact HR2t.out.drewN nq)
  rw [hw3]
  clear hw3 HR1t HR2t HB2 hlx hly hlx2 hly2 hlx0 hly0
  go_wp2_with fail
  refine (Twins_ok (some ⟨g1, 0, none⟩) (some ⟨g2, 0, none⟩) x' y' k1 k2 w3 HR1.out HR2.out hk1t hk2t HXT.out HYT.out).mono ?_
  rintro e w4 ⟨fv, rfl, hof, hb3⟩
  obtain ⟨A3, k3, rfl, hr3⟩ := hof.form0
  have HB9 := Lib.hid (keepC HB3.out hb3)
  have HF3 := Lib.hid hr3
  have HR1b := Lib.hid (RInts.tow HR1.out (Nat.le_refl _) hb3)
  have HR2b := Lib.hid (RInts.tow HR2.out (Nat.le_refl _) hb3)
  have HT := Lib.hid (RTwins_any (some ⟨g1, 0, none⟩) (some ⟨g2, 0, none⟩) x' y' k1 k2 w4 HR1b.out HR2b.out hk1t hk2t HXT.out HYT.out)
  have HS := Lib.hid ((twins_all HXT.out HYT.out).small HXT.out.ok.1 HYT.out.ok.1)
  obtain ⟨F, hF⟩ : ∃ F, twinsL x' y' = F := ⟨_, rfl⟩
  rw [hF] at HF3 HT HS ⊢
  clear hof hb3 hr3 HR1 HR2 hF HB3
  go_wp2_with fail
  refine HT.out.mono ?_
  rintro e w5 ⟨v4, rfl, hp4, hl4, hb4⟩
  obtain ⟨A4, k4, rfl, hr4⟩ := hp4.form0
  have HF4 := Lib.hid hr4
  have HF3b := Lib.hid (HF3.out.tow hb4)
  have HB4 := Lib.hid (keepC HB9.out hb4)
  clear hp4 hb4 hr4 HF3 HB9 HT
  go_wp2_with fail
  refine (pairs_same A3 A4 F k3 k4 w5.heap.size w5 HF3b.out HF4.out HS.out hl4).mono ?_
  rintro e w6 ⟨rfl, n5, rfl⟩
  have HB5 := Lib.hid (Below.drewN_ HB4.out n5)
  clear HF3b HF4 HB4
  go_wp2_with fail
  refine (HA.out _).mono ?_
  rintro e w7 ⟨rfl, hb7⟩
  have HB7 := Lib.hid (keepC HB5.out hb7)
  clear HB5 hb7
  go_wp2_with fail
  go_ret
  exact ⟨rfl, HB7.out⟩

set_option maxRecDepth 100000 in
theorem far_row (os : Os) (started : os.Started) (H : Type) (enc : TypeId × Value → H) :
    ReturnsInHanded {} Try.checked os 10 .any (Rows.diceFarSpec.pre6 enc Try.prog Try.f10 Rows.diceFarRow.domain false) (Rows.diceFarSpec.post enc Try.prog Try.f10 false true false false) := by
  refine returnsInHanded_of_change (C := Try.checked) ownNone started (by kernel_rfl) Try.func10
    (ChangeSpec.witness6 (enc := enc) (C := Try.checked) false ⟨#[], #[.slice none 0 0, .slice none 0 0], []⟩ 8 (by kernel_rfl) (by kernel_rfl) (by kernel_rfl) (by kernel_rfl)) ?_
  intro W base args ds gs before hval hW _ _
  have hW2 := hW
  obtain ⟨p, q, hA, hV, rfl, _, _⟩ := hW2
  have hA : DataW.TrodAll enc Try.prog W 0 (fun _ => true) true Try.f10.params.toList args.toList ds p := hA
  have hAk := hA
  have hval : ∀ (j : Nat) t v, Try.f10.params[j]? = some t → args[j]? = some v → Value.okWide Try.prog W .any base t v := hval
  rw [Try.params10] at hA hval
  obtain ⟨v0, vs0, d0, ds0, p0, q0, hargs, rfl, rfl, h0, r0⟩ := trodAll_cons hA
  obtain ⟨v1, vs1, d1, ds1, p1, q1, rfl, rfl, rfl, h1, r1⟩ := trodAll_cons r0
  obtain ⟨rfl, rfl, rfl⟩ := trodAll_nil r1
  obtain rfl : args = #[v0, v1] := by cases args; simp_all
  obtain ⟨rfl, rfl⟩ := trodVars_none hV
  obtain ⟨A0, z0, c0, rfl, _, m0, hr0⟩ := open_die (hval 0 36 v0 rfl rfl) h0
  obtain ⟨A1, z1, c1, rfl, _, m1, hr1⟩ := open_die (hval 1 36 v1 rfl rfl) h1
  clear hA hval
  simp only [List.append_nil] at hW hAk
  refine (far_law A0 A1 z0 z1 c0 c1 W hr0 hr1 m0 m1).mono fun e W' ⟨he, hb⟩ => ?_
  subst he
  exact ⟨_, rfl, post_bool hW hb (by rw [Try.params10]; decide) hAk (fun _ => rfl) rfl rfl (by kernel_rfl)⟩

theorem far_holds : Rows.DiceFarSaid :=
  OpenClaim.holds_of_wide 10 Try.f10 rfl rfl rfl rfl rfl rfl rfl ⟨rfl, rfl, rfl, rfl, rfl⟩ rfl rfl rfl rfl rfl (by kernel_rfl) Try.func10 (by kernel_rfl)
    (of_decide_eq_true (by kernel_rfl)) (by unfold Func.isWrapper; first | (rw [if_pos (by decide +kernel)]; kernel_rfl) | (rw [if_neg (by decide +kernel)]; exact ⟨rfl, rfl⟩))
    (fun os started H enc _ => far_row os started H enc)

#print axioms far_holds
end Go.Proofs.Ytkkholagmjcgiaa
