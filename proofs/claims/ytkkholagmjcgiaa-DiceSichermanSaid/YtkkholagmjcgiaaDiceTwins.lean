/- For any two lists of integers: the function DiceTwins answers true: of the two dice made of them, with faces up to 12, Twins returns no error and just the list that the reference's Twins returns. No conditions. -/
import Derived.Test.YtkkholagmjcgiaaRPairs2
import Derived.Test.YtkkholagmjcgiaaRPairs
import Derived.Test.YtkkholagmjcgiaaOpen
namespace Go.Proofs.Ytkkholagmjcgiaa
open Go.ChangeShapes Go.WideShapes Go.ChangeAt Go.RowKit

theorem OutOk.form0 {Z : Nat → Prop} {w : World} {fv : Value} {F : List (List Int × List Int)} (h : OutOk Z w fv F) : ∃ A k, fv = .slice A F.length k ∧ RPairs w w.heap.size A F := by
  rcases Nat.eq_zero_or_pos F.length with h0 | h0
  · have hF : F = [] := List.eq_nil_of_length_eq_zero h0
    subst hF
    obtain ⟨vs, hl, h1, _⟩ := h
    rcases h1.2 with ⟨e1, _⟩ | ⟨g', cap, cur, e1, _⟩
    · exact ⟨none, 0, e1, fun i q hq => by simp at hq⟩
    · exact ⟨_, cap, e1, fun i q hq => by simp at hq⟩
  · obtain ⟨g, k, e, hr⟩ := h.reads h0
    exact ⟨_, k, e, hr⟩
theorem PutIn.form0 {w : World} {v : Value} {F : List (List Int × List Int)} (h : PutIn w v F) : ∃ A k, v = .slice A F.length k ∧ RPairs w w.heap.size A F := by
  rcases Nat.eq_zero_or_pos F.length with h0 | h0
  · have hF : F = [] := List.eq_nil_of_length_eq_zero h0
    subst hF
    exact ⟨none, 0, h.nil rfl, fun i q hq => by simp at hq⟩
  · obtain ⟨vs, hv⟩ := h.out
    obtain ⟨g, k, e, _, _, _, _, hr⟩ := hv.reads h0
    exact ⟨_, k, e, hr⟩
theorem RPairs.tow {w W : World} {A : Option Addr} {F : List (List Int × List Int)} (h : RPairs w w.heap.size A F) (hb : Below w.heap.size w W) : RPairs W W.heap.size A F := (h.below hb).more hb.size
theorem AllTwo.small {n m : Nat} {W : Int → Int} {c d : Int} {F : List (List Int × List Int)} (h : AllTwo n m W c d F) (hn : n ≤ 8) (hm : m ≤ 8) : ∀ p ∈ F, p.1.length ≤ 8 ∧ p.2.length ≤ 8 := fun p hp => by
  obtain ⟨h1, _⟩ := (h.mem p).1 hp
  have := h1.n
  have := h1.m
  omega

set_option maxRecDepth 100000 in
set_option maxHeartbeats 4000000 in
theorem twins_law (A1 A2 : Option Addr) (a b : List Int) (c1 c2 : Nat) (w : World) (h1 : RInts w w.heap.size A1 a) (h2 : RInts w w.heap.size A2 b) (hm1 : a.length ≤ 9223372036854775807) (hm2 : b.length ≤ 9223372036854775807) :
    Calls Try.prog 9 #[.slice A1 a.length c1, .slice A2 b.length c2] w fun e w' => e = .returned (.bool true) ∧ Below w.heap.size w w' := by
  have HD1 := Lib.hid (show Calls Try.prog 45 #[.slice A1 a.length c1, .int .i64 12] w _ from made_any A1 a c1 12 w h1 hm1 (by decide))
  have HD2 := Lib.hid (fun (W : World) (hb : Below w.heap.size w W) => show Calls Try.prog 45 #[.slice A2 b.length c2, .int .i64 12] W _ from made_any A2 b c2 12 W (RInts.tow h2 (Nat.le_refl _) hb) hm2 (by decide))
  have HX := Lib.hid (madeL_die a (most := ((12 : Nat) : Int)) (by decide) (by decide))
  have HY := Lib.hid (madeL_die b (most := ((12 : Nat) : Int)) (by decide) (by decide))
  obtain ⟨x, hx⟩ : ∃ x, madeL a ((12 : Nat) : Int) = x := ⟨_, rfl⟩
  obtain ⟨y, hy⟩ : ∃ y, madeL b ((12 : Nat) : Int) = y := ⟨_, rfl⟩
  rw [hx] at HD1 HX
  rw [hy] at HD2 HY
  have HA := Lib.hid awake_any
  clear h1 h2 hx hy
  go_enter Try.func9, Try.ntmps9
  go_wp2_with fail
  refine HD1.out.mono ?_
  rintro e w1 ⟨g1, k1, rfl, _, ho1, hb1⟩
  have HB1 := Lib.hid hb1
  have HO1 := Lib.hid ho1
  clear ho1 hb1 HD1
  go_wp2_with fail
  refine (HD2.out w1 HB1.out).mono ?_
  rintro e w2 ⟨g2, k2, rfl, _, ho2, hb2⟩
  have HB2 := Lib.hid (keepC HB1.out hb2)
  have HR1 := Lib.hid (RInts.tow HO1.out.reads (Nat.le_refl _) hb2)
  have HR2 := Lib.hid ho2.reads
  have hk1 := HO1.out.cap
  have hk2 := ho2.cap
  clear ho2 hb2 HD2 HO1 HB1
  go_wp2_with fail
  refine (Twins_ok (some ⟨g1, 0, none⟩) (some ⟨g2, 0, none⟩) x y k1 k2 w2 HR1.out HR2.out hk1 hk2 HX.out HY.out).mono ?_
  rintro e w3 ⟨fv, rfl, hof, hb3⟩
  obtain ⟨A3, k3, rfl, hr3⟩ := hof.form0
  have HB3 := Lib.hid (keepC HB2.out hb3)
  have HF3 := Lib.hid hr3
  have HR1b := Lib.hid (RInts.tow HR1.out (Nat.le_refl _) hb3)
  have HR2b := Lib.hid (RInts.tow HR2.out (Nat.le_refl _) hb3)
  have HT := Lib.hid (RTwins_any (some ⟨g1, 0, none⟩) (some ⟨g2, 0, none⟩) x y k1 k2 w3 HR1b.out HR2b.out hk1 hk2 HX.out HY.out)
  have HS := Lib.hid ((twins_all HX.out HY.out).small HX.out.ok.1 HY.out.ok.1)
  obtain ⟨F, hF⟩ : ∃ F, twinsL x y = F := ⟨_, rfl⟩
  rw [hF] at HF3 HT HS ⊢
  clear hof hb3 hr3 HR1 HR2 hF HB2
  go_wp2_with fail
  refine HT.out.mono ?_
  rintro e w4 ⟨v4, rfl, hp4, hl4, hb4⟩
  obtain ⟨A4, k4, rfl, hr4⟩ := hp4.form0
  have HF4 := Lib.hid hr4
  have HF3b := Lib.hid (HF3.out.tow hb4)
  have HB4 := Lib.hid (keepC HB3.out hb4)
  clear hp4 hb4 hr4 HF3 HB3 HT
  go_wp2_with fail
  refine (pairs_same A3 A4 F k3 k4 w4.heap.size w4 HF3b.out HF4.out HS.out hl4).mono ?_
  rintro e w5 ⟨rfl, n5, rfl⟩
  have HB5 := Lib.hid (Below.drewN_ HB4.out n5)
  clear HF3b HF4 HB4
  go_wp2_with fail
  refine (HA.out _).mono ?_
  rintro e w7 ⟨rfl, hb7⟩
  have HB7 := Lib.hid (keepC HB5.out hb7)
  clear HB5 hb7
  go_wp2_with fail
  go_ret
  exact ⟨rfl, HB7.out⟩

set_option maxRecDepth 100000 in
theorem twins_row (os : Os) (started : os.Started) (H : Type) (enc : TypeId × Value → H) :
    ReturnsInHanded {} Try.checked os 9 .any (Rows.diceTwinsSpec.pre6 enc Try.prog Try.f9 Rows.diceTwinsRow.domain false) (Rows.diceTwinsSpec.post enc Try.prog Try.f9 false true false false) := by
  refine returnsInHanded_of_change (C := Try.checked) ownNone started (by kernel_rfl) Try.func9
    (ChangeSpec.witness6 (enc := enc) (C := Try.checked) false ⟨#[], #[.slice none 0 0, .slice none 0 0], []⟩ 8 (by kernel_rfl) (by kernel_rfl) (by kernel_rfl) (by kernel_rfl)) ?_
  intro W base args ds gs before hval hW _ _
  have hW2 := hW
  obtain ⟨p, q, hA, hV, rfl, _, _⟩ := hW2
  have hA : DataW.TrodAll enc Try.prog W 0 (fun _ => true) true Try.f9.params.toList args.toList ds p := hA
  have hAk := hA
  have hval : ∀ (j : Nat) t v, Try.f9.params[j]? = some t → args[j]? = some v → Value.okWide Try.prog W .any base t v := hval
  rw [Try.params9] at hA hval
  obtain ⟨v0, vs0, d0, ds0, p0, q0, hargs, rfl, rfl, h0, r0⟩ := trodAll_cons hA
  obtain ⟨v1, vs1, d1, ds1, p1, q1, rfl, rfl, rfl, h1, r1⟩ := trodAll_cons r0
  obtain ⟨rfl, rfl, rfl⟩ := trodAll_nil r1
  obtain rfl : args = #[v0, v1] := by cases args; simp_all
  obtain ⟨rfl, rfl⟩ := trodVars_none hV
  obtain ⟨A0, z0, c0, rfl, _, m0, hr0⟩ := open_die (hval 0 36 v0 rfl rfl) h0
  obtain ⟨A1, z1, c1, rfl, _, m1, hr1⟩ := open_die (hval 1 36 v1 rfl rfl) h1
  clear hA hval
  simp only [List.append_nil] at hW hAk
  refine (twins_law A0 A1 z0 z1 c0 c1 W hr0 hr1 m0 m1).mono fun e W' ⟨he, hb⟩ => ?_
  subst he
  exact ⟨_, rfl, post_bool hW hb (by rw [Try.params9]; decide) hAk (fun _ => rfl) rfl rfl (by kernel_rfl)⟩

theorem twins_holds : Rows.DiceTwinsSaid :=
  OpenClaim.holds_of_wide 9 Try.f9 rfl rfl rfl rfl rfl rfl rfl ⟨rfl, rfl, rfl, rfl, rfl⟩ rfl rfl rfl rfl rfl (by kernel_rfl) Try.func9 (by kernel_rfl)
    (of_decide_eq_true (by kernel_rfl)) (by unfold Func.isWrapper; first | (rw [if_pos (by decide +kernel)]; kernel_rfl) | (rw [if_neg (by decide +kernel)]; exact ⟨rfl, rfl⟩))
    (fun os started H enc _ => twins_row os started H enc)

#print axioms twins_holds
end Go.Proofs.Ytkkholagmjcgiaa
