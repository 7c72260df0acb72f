/- For any lists of integers and any integer: the function DiceSums answers true: of the dice made of the lists Results, Sums and Ways return what the reference's Results, Sums and Ways say, Ways also for the integer, whatever it is. No conditions. -/
import Derived.Test.YtkkholagmjcgiaaRSums
import Derived.Test.YtkkholagmjcgiaaSome
import Derived.Test.YtkkholagmjcgiaaAwake
import Derived.Test.YtkkholagmjcgiaaOpen
namespace Go.Proofs.Ytkkholagmjcgiaa
open Go.ChangeShapes Go.WideShapes Go.ChangeAt Go.RowKit

/-- A row of pairs of numbers, nil let in, as a slice that is read. -/
theorem PRow.reads {w : World} {base : Nat} {v : Value} {ps : List (Int × Int)} (h : PRow w base v ps) : ∃ A c, v = .slice A ps.length c ∧ ∀ i p, ps[i]? = some p → ∃ g, A = some ⟨g, 0, none⟩ ∧ g < w.heap.size ∧ w.cell? ⟨g, i * 2, none⟩ = some (.int .i64 p.1) ∧ w.cell? ⟨g, i * 2 + 1, none⟩ = some (.int .i64 p.2) := by
  rcases Nat.eq_zero_or_pos ps.length with h0 | h0
  · have hnil := List.eq_nil_of_length_eq_zero h0
    rcases h.2 with ⟨e1, _⟩ | ⟨g, cap, cur, e1, _⟩
    · exact ⟨none, 0, by rw [e1, h0], fun i p hp => by rw [hnil] at hp; simp at hp⟩
    · exact ⟨_, cap, e1, fun i p hp => by rw [hnil] at hp; simp at hp⟩
  · obtain ⟨g, k, e, _, hg, hc⟩ := h.cells h0
    exact ⟨_, k, e, fun i p hp => ⟨g, rfl, hg, hc i p hp⟩⟩
theorem pairs_later {w : World} {A : Option Addr} {ps : List (Int × Int)} (h : ∀ i p, ps[i]? = some p → ∃ g, A = some ⟨g, 0, none⟩ ∧ g < w.heap.size ∧ w.cell? ⟨g, i * 2, none⟩ = some (.int .i64 p.1) ∧ w.cell? ⟨g, i * 2 + 1, none⟩ = some (.int .i64 p.2)) :
    ∀ W, Below w.heap.size w W → ∀ (i : Nat) (p : Int × Int), ps[i]? = some p → ∃ g, A = some ⟨g, 0, none⟩ ∧ W.cell? ⟨g, i * 2, none⟩ = some (.int .i64 p.1) ∧ W.cell? ⟨g, i * 2 + 1, none⟩ = some (.int .i64 p.2) := fun W hb i p hp => by
  obtain ⟨g, e, hg, h1, h2⟩ := h i p hp
  exact ⟨g, e, (hb.cell (p := ⟨g, i * 2, none⟩) hg).trans h1, (hb.cell (p := ⟨g, i * 2 + 1, none⟩) hg).trans h2⟩
theorem w64_wrap (z : Int) : W64 (wrap64 z) := by
  unfold wrap64 W64
  omega

set_option maxRecDepth 100000 in
set_option maxHeartbeats 8000000 in
theorem sums_law (A : Option Addr) (l : List (List Int)) (c : Nat) (a1 : Int) (w : World) (hr : RDice w w.heap.size A l) (hl : l.length ≤ 9223372036854775807) (hd : ∀ x ∈ l, x.length ≤ 9223372036854775807) (ha1 : W64 a1) :
    Calls Try.prog 5 #[.slice A l.length c, .int .i64 a1] w fun e w' => e = .returned (.bool true) ∧ Below w.heap.size w w' := by
  have HS := Lib.hid (show Calls Try.prog 36 #[.slice A l.length c, .int .i64 6, .int .i64 60] w (GaveD w (someL l 6 (60 : Nat))) from some_any A l c 6 60 w hr hl hd (by decide) (by decide))
  have hdi : AreDice (someL l 6 (60 : Nat)) := someL_dice l (by decide) (by decide) (by decide)
  obtain ⟨ds, hds⟩ : ∃ ds, someL l 6 (60 : Nat) = ds := ⟨_, rfl⟩
  rw [hds] at HS hdi
  have HDI := Lib.hid hdi
  have hlen := hdi.len
  have HA := Lib.hid awake_any
  have HW1 := Lib.hid ha1
  clear hr hds hdi hd ha1
  go_enter Try.func5, Try.ntmps5
  go_wp2_with fail
  refine HS.out.mono ?_
  rintro e w1 ⟨v, G, K, rfl, hv, hb1⟩
  obtain ⟨Ax, cx, rfl, hcx, hrx⟩ := hv.reads
  have HB1 := Lib.hid hb1
  have HRX := Lib.hid (show ∀ W, Below w1.heap.size w1 W → RDice W W.heap.size Ax ds from fun W hb => (hrx.below hb).more hb.size)
  clear hv hb1 hrx HS hcx
  obtain ⟨R, hR⟩ : ∃ R, resL ds = R := ⟨_, rfl⟩
  have HRE := Lib.hid hR
  go_wp2_with fail
  refine (Results_ok Ax ds cx _ w1 (HRX.out _ (Below.refl _ _)) HDI.out).mono ?_
  rintro e w2 ⟨rfl, n, hw2⟩
  rw [hR]
  have HB2 := Lib.hid (show Below w1.heap.size w1 w2 by rw [hw2]; exact Below.drewN_ (Below.refl _ _) n)
  clear hw2 hR
  go_wp2_with fail
  refine (Sums_ok Ax ds cx w2 (HRX.out _ HB2.out) HDI.out).mono ?_
  rintro e w3 ⟨v1, rfl, hp1, hb3⟩
  have HB3 := Lib.hid (keepC HB2.out hb3)
  obtain ⟨A1, c1, rfl, hq1⟩ := hp1.reads
  have HQ1 := Lib.hid (pairs_later hq1)
  clear hp1 hq1 hb3 HB2
  go_wp2_with fail
  refine (RSums_any Ax ds cx w3 (HRX.out _ HB3.out) hlen HDI.out.die).mono ?_
  rintro e w4 ⟨v2, rfl, hp2, hb4⟩
  have HB4 := Lib.hid (keepC HB3.out hb4)
  have HB34 := Lib.hid hb4
  obtain ⟨A2, c2, rfl, hq2⟩ := hp2.reads
  have HQ2 := Lib.hid (pairs_later hq2)
  clear hp2 hq2 hb4 HB3
  obtain ⟨S, hS⟩ : ∃ S, (sumsL ds).length = S := ⟨_, rfl⟩
  have HSL := Lib.hid hS
  have hS361 : S ≤ 361 := by
    rw [← hS]
    unfold sumsL keysW
    rw [List.length_map]
    exact Nat.le_trans (List.length_filter_le _ _) (by simp [evK])
  rw [hS]
  clear hS
  go_wp2_with fail
  refine (RResults_any Ax ds cx _ w4 (HRX.out _ HB4.out) HDI.out).mono ?_
  rintro e w' ⟨rfl, rfl⟩
  rw [HRE.out]
  go_wp2_with fail
  go_loopg [11] S (fun gg i wx => ∃ k : Nat, k + gg = S ∧ i = .int .i64 k ∧ Hid (Below w4.heap.size w4 wx))
  case atStart => exact ⟨0, by omega, rfl, Lib.hid (Below.refl _ _)⟩
  case round =>
    obtain ⟨i, hi, rfl, HW⟩ := hrel
    cases gk with
    | succ gg =>
      obtain ⟨q, hq⟩ : ∃ q, (sumsL ds)[i]? = some q := ⟨_, List.getElem?_eq_getElem (by rw [HSL.out]; omega)⟩
      obtain ⟨g1, hA1, x1, y1⟩ := HQ1.out wr (keepC HB34.out HW.out) i q hq
      obtain ⟨g2, hA2, x2, y2⟩ := HQ2.out wr HW.out i q hq
      subst hA1 hA2
      have hi1 : (i : Int) < (S : Int) := by omega
      have hi0 : (0 : Int) ≤ (i : Int) := by omega
      have heq := pairEq_same q.1 q.2
      clear hq
      go_wp2_with fail
      go_quiet (fail)
      go_wp2_with fail
      go_roundg gg
      case measure => omega
      case rel => exact ⟨i + 1, by omega, by go_num, Lib.hid (Below.drewN_ HW.out _)⟩
    | zero =>
      obtain rfl : i = S := by omega
      have HBW := Lib.hid (keepC HB4.out HW.out)
      clear HB4 HQ1 HQ2 HB34
      go_wp2_with fail
      refine (RWays_any Ax ds cx wr (HRX.out _ HBW.out) hlen HDI.out.die).mono ?_
      rintro e w5 ⟨ga, rfl, hga, hbx, hb5⟩
      have HB5 := Lib.hid (keepC HBW.out hb5)
      have HX5 := Lib.hid hbx
      have hmx := maxW_le HDI.out.die
      have HMX := Lib.hid (waysF_max ds HDI.out.die ds.length (Nat.le_refl _))
      have HWF := Lib.hid (fun W x (hb : Below w1.heap.size w1 W) (hx : W64 x) => Ways_ok Ax ds cx x W (HRX.out W hb) HDI.out hx)
      obtain ⟨N, hN⟩ : ∃ N, maxW ds + 1 = N := ⟨_, rfl⟩
      rw [List.take_length, hN] at HMX
      rw [hN] at HX5 ⊢
      have hN1 : 1 ≤ N := by omega
      have hN361 : N ≤ 361 := by omega
      have hNu : IntKind.u64.wrap (N : Int) = (N : Int) := u64_small (by omega)
      have hNz : ((N : Int) == 0) = false := by rw [beq_eq_false_iff_ne]; omega
      clear hbx hb5 hmx hN HBW HW
      go_wp2_with fail
      go_loopg [1, 13] 2 (fun g sv i wx => ∃ (r : Nat) (x : Int), r + g = 2 ∧ i = .int .i64 r ∧ sv = .int .i64 x ∧ Hid (W64 x) ∧ Hid (Box wx ga 2 (rowW N (waysF ds))) ∧ Hid (Below w1.heap.size w1 wx))
      case atStart => exact ⟨0, a1, by omega, rfl, rfl, HW1, HX5, HB5⟩
      case round =>
        clear HX5 HB5
        obtain ⟨r, x, hr, rfl, rfl, HX64, HX, HB⟩ := hrel
        cases gk with
        | zero =>
          obtain rfl : r = 2 := by omega
          go_wp2_with fail
          refine (HA.out _).mono ?_
          rintro e w7 ⟨rfl, hb7⟩
          have HB7 := Lib.hid (keepC (keepC HB1.out HB.out) hb7)
          clear hb7
          go_wp2_with fail
          go_ret
          exact ⟨rfl, HB7.out⟩
        | succ g =>
          have hr2 : (r : Int) < 2 := by omega
          have hr0 : (0 : Int) ≤ (r : Int) := by omega
          go_wp2_with fail
          refine (HWF.out _ x HB.out HX64.out).mono ?_
          rintro e w6 ⟨rfl, hb6⟩
          have HX6 := Lib.hid (HX.out.below hb6 HX.out.lt)
          have HB6 := Lib.hid (keepC HB.out hb6)
          obtain ⟨u, hu⟩ : ∃ u, waysF ds x = u := ⟨_, rfl⟩
          have HU := Lib.hid hu
          rw [hu]
          clear hu hb6 HX HB
          by_cases hx0 : x < 0
          · have hx0' : ¬ 0 ≤ x := by omega
            have hu0 : u = 0 := by
              apply Classical.byContradiction
              intro h
              have := HMX.out x (by rw [HU.out]; exact h)
              omega
            subst hu0
            go_wp2_with fail
            go_roundg g
            case measure => omega
            case rel => exact ⟨r + 1, _, by omega, by go_num, rfl, Lib.hid (w64_wrap _), HX6, HB6⟩
          · have hx1 : 0 ≤ x := by omega
            obtain ⟨xn, rfl⟩ := Int.eq_ofNat_of_zero_le hx1
            by_cases hxN : xn < N
            · have hcell := (HX6.out.cell xn).trans (rowW_at hxN)
              rw [HU.out] at hcell
              have hxN' : (xn : Int) < (N : Int) := by omega
              go_wp2_with fail
              go_roundg g
              case measure => omega
              case rel => exact ⟨r + 1, _, by omega, by go_num, rfl, Lib.hid (w64_wrap _), HX6, HB6⟩
            · have hxN' : ¬ (xn : Int) < (N : Int) := by omega
              have hu0 : u = 0 := by
                apply Classical.byContradiction
                intro h
                have := HMX.out _ (by rw [HU.out]; exact h)
                omega
              subst hu0
              go_wp2_with fail
              go_roundg g
              case measure => omega
              case rel => exact ⟨r + 1, _, by omega, by go_num, rfl, Lib.hid (w64_wrap _), HX6, HB6⟩
set_option maxRecDepth 100000 in
theorem sums_row (os : Os) (started : os.Started) (H : Type) (enc : TypeId × Value → H) :
    ReturnsInHanded {} Try.checked os 5 .any (Rows.diceSumsSpec.pre6 enc Try.prog Try.f5 Rows.diceSumsRow.domain false) (Rows.diceSumsSpec.post enc Try.prog Try.f5 false true false false) := by
  refine returnsInHanded_of_change (C := Try.checked) ownNone started (by kernel_rfl) Try.func5
    (ChangeSpec.witness6 (enc := enc) (C := Try.checked) false ⟨#[], #[.slice none 0 0, .int .i64 0], []⟩ 8 (by kernel_rfl) (by kernel_rfl) (by kernel_rfl) (by kernel_rfl)) ?_
  intro W base args ds gs before hval hW _ _
  have hW2 := hW
  obtain ⟨p, q, hA, hV, rfl, _, _⟩ := hW2
  have hA : DataW.TrodAll enc Try.prog W 0 (fun _ => true) true Try.f5.params.toList args.toList ds p := hA
  have hAk := hA
  have hval : ∀ (j : Nat) t v, Try.f5.params[j]? = some t → args[j]? = some v → Value.okWide Try.prog W .any base t v := hval
  rw [Try.params5] at hA hval
  obtain ⟨v0, vs0, d0, ds0, p0, q0, hargs, rfl, rfl, h0, r0⟩ := trodAll_cons hA
  obtain ⟨v1, vs1, d1, ds1, p1, q1, rfl, rfl, rfl, h1, r1⟩ := trodAll_cons r0
  obtain ⟨rfl, rfl, rfl⟩ := trodAll_nil r1
  obtain rfl : args = #[v0, v1] := by cases args; simp_all
  obtain ⟨rfl, rfl⟩ := trodVars_none hV
  obtain ⟨A0, z0, c0, rfl, _, m0, hr0, e0⟩ := open_dice (hval 0 22 v0 rfl rfl) h0
  obtain ⟨a1, rfl, rfl, rfl, w1⟩ := open_int Try.underlying3 (hval 1 3 v1 rfl rfl) h1
  clear hA hval
  simp only [List.append_nil] at hW hAk
  refine (sums_law A0 z0 c0 a1 W hr0 m0 e0 (W64.of w1)).mono fun e W' ⟨he, hb⟩ => ?_
  subst he
  exact ⟨_, rfl, post_bool hW hb (by rw [Try.params5]; decide) hAk (fun _ => rfl) rfl rfl (by kernel_rfl)⟩

theorem sums_holds : Rows.DiceSumsSaid :=
  OpenClaim.holds_of_wide 5 Try.f5 rfl rfl rfl rfl rfl rfl rfl ⟨rfl, rfl, rfl, rfl, rfl⟩ rfl rfl rfl rfl rfl (by kernel_rfl) Try.func5 (by kernel_rfl)
    (of_decide_eq_true (by kernel_rfl)) (by unfold Func.isWrapper; first | (rw [if_pos (by decide +kernel)]; kernel_rfl) | (rw [if_neg (by decide +kernel)]; exact ⟨rfl, rfl⟩))
    (fun os started H enc _ => sums_row os started H enc)

#print axioms sums_holds
end Go.Proofs.Ytkkholagmjcgiaa
