/- For any lists of integers: the function DiceOnce answers true: of the dice made of them none beats itself; of two the numbers more and less change places with the dice, the three numbers of Compare add up to the results, and the table of Beats says just whether more is above less; there is a ring just if there is no rank list. No conditions. -/
import Derived.Test.YtkkholagmjcgiaaBeats2
import Derived.Test.YtkkholagmjcgiaaSome
import Derived.Test.YtkkholagmjcgiaaAwake
import Derived.Test.YtkkholagmjcgiaaOpen
namespace Go.Proofs.Ytkkholagmjcgiaa
open Go.ChangeShapes Go.WideShapes Go.ChangeAt Go.RowKit

/-- Where a world lies behind another, through draws and calls. -/
theorem keep2 {w W : World} {p q : Addr} {u v : Value} (h1 : w.cell? p = some u) (h2 : w.cell? q = some v) (hp : p.block < w.heap.size) (hq : q.block < w.heap.size) (hb : Below w.heap.size w W) :
    W.cell? p = some u ∧ W.cell? q = some v ∧ Below w.heap.size w W := ⟨(hb.cell hp).trans h1, (hb.cell hq).trans h2, hb⟩

set_option maxRecDepth 100000 in
set_option maxHeartbeats 8000000 in
theorem once_law (A : Option Addr) (l : List (List Int)) (c : Nat) (w : World) (hr : RDice w w.heap.size A l) (hl : l.length ≤ 9223372036854775807) (hd : ∀ x ∈ l, x.length ≤ 9223372036854775807) :
    Calls Try.prog 14 #[.slice A l.length c] w fun e w' => e = .returned (.bool true) ∧ Below w.heap.size w w' := by
  have HS := Lib.hid (show Calls Try.prog 36 #[.slice A l.length c, .int .i64 6, .int .i64 12] w (GaveD w (someL l 6 (12 : Nat))) from some_any A l c 6 12 w hr hl hd (by decide) (by decide))
  have hdi : AreDice (someL l 6 (12 : Nat)) := someL_dice l (by decide) (by decide) (by decide)
  obtain ⟨ds, hds⟩ : ∃ ds, someL l 6 (12 : Nat) = ds := ⟨_, rfl⟩
  rw [hds] at HS hdi
  have HDI := Lib.hid hdi
  have hlen := hdi.len
  have HA := Lib.hid awake_any
  clear hr hds hdi hd
  go_enter Try.func14, Try.ntmps14
  go_wp2_with fail
  refine HS.out.mono ?_
  rintro e w1 ⟨v, G, K, rfl, hv, hb1⟩
  obtain ⟨Ax, cx, rfl, hcx, hrx⟩ := hv.reads
  have HB1 := Lib.hid hb1
  have HRX := Lib.hid hrx
  clear hv hb1 hrx HS
  go_wp2_with fail
  refine (Beats_ok Ax ds cx w1 HRX.out HDI.out).mono ?_
  rintro e w2 ⟨T, g, rfl, htab, hb2⟩
  have HT := Lib.hid htab
  have HB2 := Lib.hid (keepC HB1.out hb2)
  have HR2 := Lib.hid ((HRX.out.below hb2).more hb2.size)
  clear htab hb2 HRX HB1
  go_wp2_with fail
  refine (Ring_any Ax ds cx w2 HR2.out HDI.out).mono ?_
  rintro e w3 ⟨hring, hb3⟩
  have HT3 := Lib.hid (HT.out.below hb3 (Nat.le_refl _))
  have HB3 := Lib.hid (keepC HB2.out hb3)
  have HR3 := Lib.hid ((HR2.out.below hb3).more hb3.size)
  have HRK := Lib.hid (Rank_any Ax ds cx w3 HR3.out HDI.out)
  clear hb3 HT HB2 HR2
  rcases hring with ⟨hle, rfl⟩ | ⟨hle, A3, c3, rfl, _⟩
  all_goals
    have HLE := Lib.hid hle
    clear hle
    go_wp2_with fail
    refine HRK.out.mono ?_
    rintro e w4 ⟨hrank, hb4⟩
    rcases hrank with ⟨hle2, rfl⟩ | ⟨hle2, v4, rfl, _⟩
    all_goals first
      | exact absurd HLE.out hle2
      | exact absurd hle2 HLE.out
      | skip
    have HT4 := Lib.hid (HT3.out.below hb4 (Nat.le_refl _))
    have HB4 := Lib.hid (keepC HB3.out hb4)
    have HR4 := Lib.hid ((HR3.out.below hb4).more hb4.size)
    clear hb4 HT3 HB3 HR3 HRK hle2 HLE
    go_wp2_with fail
    go_loopg [12] ds.length (fun gg i wx => ∃ k : Nat, k + gg = ds.length ∧ i = .int .i64 k ∧ Hid (Below w4.heap.size w4 wx))
    case atStart => exact ⟨0, by omega, rfl, Lib.hid (Below.refl _ _)⟩
    case round =>
      obtain ⟨i, hi, rfl, HW⟩ := hrel
      have HBR := Lib.hid (keepC HB4.out HW.out)
      cases gk with
      | zero =>
        obtain rfl : i = ds.length := by omega
        go_wp2_with fail
        refine (HA.out _).mono ?_
        rintro e w7 ⟨rfl, hb7⟩
        have HB7 := Lib.hid (keepC HBR.out hb7)
        clear HBR hb7
        go_wp2_with fail
        go_ret
        exact ⟨rfl, HB7.out⟩
      | succ gg =>
        have hil : i < ds.length := by omega
        have ht := (HT4.out.below HW.out (Nat.le_refl _)).at_ hil hil
        obtain ⟨ht1, ht2⟩ := ht
        rw [show bt ds i i = false by rw [bt_is, more_less]; simp] at ht2
        have hi1 : (i : Int) < (ds.length : Int) := by omega
        have hi0 : (0 : Int) ≤ (i : Int) := by omega
        go_wp2_with fail
        clear ht1 ht2
        go_loopg [13] ds.length (fun gg k wx => ∃ j : Nat, j + gg = ds.length ∧ k = .int .i64 j ∧ Hid (Below w4.heap.size w4 wx))
        case atStart => exact ⟨0, by omega, rfl, HW⟩
        case round =>
          obtain ⟨k, hk, rfl, HW2⟩ := hrel
          cases gk with
          | zero =>
            obtain rfl : k = ds.length := by omega
            go_wp2_with fail
            go_roundg gg
            case measure => omega
            case rel => exact ⟨i + 1, by omega, by go_num, HW2⟩
          | succ gg2 =>
            have hkl : k < ds.length := by omega
            have hk1 : (k : Int) < (ds.length : Int) := by omega
            have hk0 : (0 : Int) ≤ (k : Int) := by omega
            obtain ⟨b, o, a1, c1, d1, hA, hb, hx1, hc1, hcl1, hr1⟩ := (HR4.out.below HW2.out).at_ (k := i) hil
            subst hA
            obtain ⟨_, _, a2, c2, d2, hA, _, hx2, hc2, hcl2, hr2⟩ := (HR4.out.below HW2.out).at_ (k := k) hkl
            cases hA
            have HBT := Lib.hid (show bt ds i k = decide (lessL (rollL [d1, d2] []) < moreL (rollL [d1, d2] [])) by
              rw [bt_is]
              simp [List.getD, hx1, hx2])
            have HD1 := Lib.hid (HDI.out.die d1 (List.mem_of_getElem? hx1))
            have HD2 := Lib.hid (HDI.out.die d2 (List.mem_of_getElem? hx2))
            have hws := HW2.out.size
            have HCA := Lib.hid (fun (W : World) (hb : Below wr.heap.size wr W) => Compare_ok a1 a2 d1 d2 c1 c2 W (RInts.tow hr1 hws hb) (RInts.tow hr2 hws hb) hcl1 hcl2 HD1.out HD2.out)
            have HCB := Lib.hid (fun (W : World) (hb : Below wr.heap.size wr W) => Compare_ok a2 a1 d2 d1 c2 c1 W (RInts.tow hr2 hws hb) (RInts.tow hr1 hws hb) hcl2 hcl1 HD2.out HD1.out)
            rw [more_less d2 d1, ← more_less d1 d2, same_same d2 d1] at HCB
            have HSUM := Lib.hid (all_results d1 d2)
            obtain ⟨m, hm⟩ : ∃ m, moreL (rollL [d1, d2] []) = m := ⟨_, rfl⟩
            obtain ⟨l2, hl2⟩ : ∃ l2, lessL (rollL [d1, d2] []) = l2 := ⟨_, rfl⟩
            obtain ⟨s, hs⟩ : ∃ s, sameL (rollL [d1, d2] []) = s := ⟨_, rfl⟩
            rw [hm, hl2, hs] at HCA HCB HSUM
            rw [hm, hl2] at HBT
            have hq1 : d1.length ≤ 8 := HD1.out.ok.1
            have hq2 : d2.length ≤ 8 := HD2.out.ok.1
            have HC1 := Lib.hid hc1
            have HC2 := Lib.hid hc2
            have hb' : b < wr.heap.size := by omega
            clear hx1 hx2 hr1 hr2 hm hl2 hs
            go_upto_region 15 with fail
            go_cut [14, 15, 16, 17] (fun v14 v15 v16 v17 wx => v14 = .int .i64 m ∧ v15 = .int .i64 l2 ∧ v16 = .int .i64 s ∧ v17 = .int .i64 0 ∧ Hid (Below wr.heap.size wr wx))
            case first =>
              go_region_held3 (fun w' => w'.cell? ⟨b, o + i, none⟩ = some (.slice a1 d1.length c1) ∧ w'.cell? ⟨b, o + k, none⟩ = some (.slice a2 d2.length c2) ∧ Below wr.heap.size wr w') ((refine keep2 HC1.out HC2.out hb' hb' ?_; first | exact Below.refl _ _ | exact (Below.refl _ _).drew | exact hb))
                ((go_at_call 33; refine (HCA.out _ ?_).mono ?_; (first | exact Below.refl _ _ | exact (Below.refl _ _).drew); rintro e w' ⟨rfl, hb⟩; obtain ⟨hcc, hff⟩ := bcell hb; replace hb := keepC (w := wr) (by first | exact Below.refl _ _ | exact (Below.refl _ _).drew) hb))
              all_goals
                clear hcc hff
                go_wp2_with fail
                go_meet
                exact ⟨rfl, rfl, rfl, rfl, hb⟩
            case rest =>
              obtain ⟨rfl, rfl, rfl, rfl, HBX⟩ := hcut
              obtain ⟨wb, rfl⟩ : ∃ wb : World, wb = wc := ⟨_, rfl⟩
              have hws2 := HBX.out.size
              have HC1b := Lib.hid ((HBX.out.cell (p := ⟨b, o + i, none⟩) hb').trans HC1.out)
              have HC2b := Lib.hid ((HBX.out.cell (p := ⟨b, o + k, none⟩) hb').trans HC2.out)
              have hb2' : b < wb.heap.size := by omega
              have hc1b := HC1b.out
              have hc2b := HC2b.out
              have HCB2 := Lib.hid (fun (W : World) (hb : Below wb.heap.size wb W) => HCB.out W (keepC HBX.out hb))
              clear hc1 hc2
              go_upto_region 16 with fail
              go_cut [18, 19, 20, 21] (fun v14 v15 v16 v17 wx => v14 = .int .i64 l2 ∧ v15 = .int .i64 m ∧ v16 = .int .i64 s ∧ v17 = .int .i64 0 ∧ Hid (Below wb.heap.size wb wx))
              case first =>
                go_region_held3 (fun w' => w'.cell? ⟨b, o + i, none⟩ = some (.slice a1 d1.length c1) ∧ w'.cell? ⟨b, o + k, none⟩ = some (.slice a2 d2.length c2) ∧ Below wb.heap.size wb w') ((refine keep2 HC1b.out HC2b.out hb2' hb2' ?_; first | exact Below.refl _ _ | exact (Below.refl _ _).drew | exact hb))
                  ((go_at_call 33; refine (HCB2.out _ ?_).mono ?_; (first | exact Below.refl _ _ | exact (Below.refl _ _).drew); rintro e w' ⟨rfl, hb⟩; obtain ⟨hcc, hff⟩ := bcell hb; replace hb := keepC (w := wb) (by first | exact Below.refl _ _ | exact (Below.refl _ _).drew) hb))
                all_goals
                  clear hcc hff
                  go_wp2_with fail
                  go_meet
                  exact ⟨rfl, rfl, rfl, rfl, hb⟩
              case rest =>
                obtain ⟨rfl, rfl, rfl, rfl, HBY⟩ := hcut
                obtain ⟨wd, rfl⟩ : ∃ wd : World, wd = wc := ⟨_, rfl⟩
                have hc1d := (HBY.out.cell (p := ⟨b, o + i, none⟩) hb2').trans HC1b.out
                have hc2d := (HBY.out.cell (p := ⟨b, o + k, none⟩) hb2').trans HC2b.out
                have HBZ := Lib.hid (keepC (keepC HW2.out HBX.out) HBY.out)
                have ht := (HT4.out.below HBZ.out (Nat.le_refl _)).at_ hil hkl
                obtain ⟨ht1, ht2⟩ := ht
                have hm8 : m ≤ 64 := by
                  have h1 := HSUM.out
                  have h2 : d1.length * d2.length ≤ 8 * 8 := Nat.mul_le_mul hq1 hq2
                  omega
                have hl8 : l2 ≤ 64 := by
                  have h1 := HSUM.out
                  have h2 : d1.length * d2.length ≤ 8 * 8 := Nat.mul_le_mul hq1 hq2
                  omega
                have hs8 : s ≤ 64 := by
                  have h1 := HSUM.out
                  have h2 : d1.length * d2.length ≤ 8 * 8 := Nat.mul_le_mul hq1 hq2
                  omega
                clear hc1b hc2b
                have hsum : ((m : Int) + (l2 : Int) + (s : Int)) = (d1.length : Int) * (d2.length : Int) := by have := HSUM.out; norm_cast
                have HSI := Lib.hid hsum
                clear hsum
                have hw1 : IntKind.i64.wrap ((m : Int) + (l2 : Int)) = (m : Int) + (l2 : Int) := IntWalk.i64_in _ (by omega)
                have hw2 : IntKind.i64.wrap ((m : Int) + (l2 : Int) + (s : Int)) = (m : Int) + (l2 : Int) + (s : Int) := IntWalk.i64_in _ (by omega)
                have hw3 : IntKind.i64.wrap ((d1.length : Int) * (d2.length : Int)) = (d1.length : Int) * (d2.length : Int) := by rw [← HSI.out]; exact hw2
                have hw4 : ((m : Int) + (l2 : Int) + (s : Int) != (d1.length : Int) * (d2.length : Int)) = false := by rw [HSI.out]; simp
                have hn1 : ((m : Int) != (m : Int)) = false := by simp
                have hn2 : ((l2 : Int) != (l2 : Int)) = false := by simp
                have hn3 : ((s : Int) != (s : Int)) = false := by simp
                by_cases hlm : l2 < m
                · rw [HBT.out, decide_eq_true hlm] at ht2
                  have hd1 : decide ((l2 : Int) < (m : Int)) = true := decide_eq_true (by omega)
                  have hd2 : decide (l2 < m) = true := decide_eq_true hlm
                  go_wp2_with fail
                  go_quiet (fail)
                  clear hw1 hw2 hw3 hw4 hn1 hn2 hn3 hd1 hd2
                  go_wp2_with fail
                  go_roundg gg2
                  case measure => omega
                  case rel => exact ⟨k + 1, by omega, by go_num, Lib.hid (Below.drewN_ HBZ.out _)⟩
                · rw [HBT.out, decide_eq_false hlm] at ht2
                  have hd1 : decide ((l2 : Int) < (m : Int)) = false := decide_eq_false (by omega)
                  have hd2 : decide (l2 < m) = false := decide_eq_false hlm
                  go_wp2_with fail
                  go_quiet (fail)
                  clear hw1 hw2 hw3 hw4 hn1 hn2 hn3 hd1 hd2
                  go_wp2_with fail
                  go_roundg gg2
                  case measure => omega
                  case rel => exact ⟨k + 1, by omega, by go_num, Lib.hid (Below.drewN_ HBZ.out _)⟩

set_option maxRecDepth 100000 in
theorem once_row (os : Os) (started : os.Started) (H : Type) (enc : TypeId × Value → H) :
    ReturnsInHanded {} Try.checked os 14 .any (Rows.diceOnceSpec.pre6 enc Try.prog Try.f14 Rows.diceOnceRow.domain false) (Rows.diceOnceSpec.post enc Try.prog Try.f14 false true false false) := by
  refine returnsInHanded_of_change (C := Try.checked) ownNone started (by kernel_rfl) Try.func14
    (ChangeSpec.witness6 (enc := enc) (C := Try.checked) false ⟨#[], #[.slice none 0 0], []⟩ 8 (by kernel_rfl) (by kernel_rfl) (by kernel_rfl) (by kernel_rfl)) ?_
  intro W base args ds gs before hval hW _ _
  have hW2 := hW
  obtain ⟨p, q, hA, hV, rfl, _, _⟩ := hW2
  have hA : DataW.TrodAll enc Try.prog W 0 (fun _ => true) true Try.f14.params.toList args.toList ds p := hA
  have hAk := hA
  have hval : ∀ (j : Nat) t v, Try.f14.params[j]? = some t → args[j]? = some v → Value.okWide Try.prog W .any base t v := hval
  rw [Try.params14] at hA hval
  obtain ⟨v0, vs0, d0, ds0, p0, q0, hargs, rfl, rfl, h0, r0⟩ := trodAll_cons hA
  obtain ⟨rfl, rfl, rfl⟩ := trodAll_nil r0
  obtain rfl : args = #[v0] := by cases args; simp_all
  obtain ⟨rfl, rfl⟩ := trodVars_none hV
  obtain ⟨A0, z0, c0, rfl, _, m0, hr0, e0⟩ := open_dice (hval 0 22 v0 rfl rfl) h0
  clear hA hval
  simp only [List.append_nil] at hW hAk
  refine (once_law A0 z0 c0 W hr0 m0 e0).mono fun e W' ⟨he, hb⟩ => ?_
  subst he
  exact ⟨_, rfl, post_bool hW hb (by rw [Try.params14]; decide) hAk (fun _ => rfl) rfl rfl (by kernel_rfl)⟩

theorem once_holds : Rows.DiceOnceSaid :=
  OpenClaim.holds_of_wide 14 Try.f14 rfl rfl rfl rfl rfl rfl rfl ⟨rfl, rfl, rfl, rfl, rfl⟩ rfl rfl rfl rfl rfl (by kernel_rfl) Try.func14 (by kernel_rfl)
    (of_decide_eq_true (by kernel_rfl)) (by unfold Func.isWrapper; first | (rw [if_pos (by decide +kernel)]; kernel_rfl) | (rw [if_neg (by decide +kernel)]; exact ⟨rfl, rfl⟩))
    (fun os started H enc _ => once_row os started H enc)

#print axioms once_holds
end Go.Proofs.Ytkkholagmjcgiaa
