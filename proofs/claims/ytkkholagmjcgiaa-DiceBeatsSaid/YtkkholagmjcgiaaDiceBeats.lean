/- For any lists of integers: the function DiceBeats answers true: of the dice made of them the table that Beats returns says of each two just whether the first beats the second, as the reference's Beats says. No conditions. -/
import Derived.Test.YtkkholagmjcgiaaBeats2
import Derived.Test.YtkkholagmjcgiaaSome
import Derived.Test.YtkkholagmjcgiaaAwake
import Derived.Test.YtkkholagmjcgiaaOpen
namespace Go.Proofs.Ytkkholagmjcgiaa
open Go.ChangeShapes Go.WideShapes Go.ChangeAt Go.RowKit

theorem Tab.at_ {w : World} {T n : Nat} {g : Nat → Nat} {f : Nat → Nat → Bool} {B : Nat} (h : Tab w T n n g f B) {i k : Nat} (hi : i < n) (hk : k < n) :
    w.cell? ⟨T, i, none⟩ = some (.slice (some ⟨g i, 0, none⟩) n n) ∧ w.cell? ⟨g i, k, none⟩ = some (.bool (f i k)) := by
  refine ⟨?_, ?_⟩
  · rw [h.tb.cell i, tabCells_at hi, if_pos hi]
  · rw [(h.rows i hi).cell k, rowCells_at hk]

theorem drew_more {w w' : World} (h : ∃ n, w.drewN n = w') (q : Nat) : ∃ n, w.drewN n = w'.drewN q := by
  obtain ⟨n, rfl⟩ := h
  exact ⟨n + q, by simp⟩

set_option maxRecDepth 100000 in
set_option maxHeartbeats 4000000 in
theorem beats_law (A : Option Addr) (l : List (List Int)) (c : Nat) (w : World) (hr : RDice w w.heap.size A l) (hl : l.length ≤ 9223372036854775807) (hd : ∀ x ∈ l, x.length ≤ 9223372036854775807) :
    Calls Try.prog 7 #[.slice A l.length c] w fun e w' => e = .returned (.bool true) ∧ Below w.heap.size w w' := by
  have HS := Lib.hid (show Calls Try.prog 36 #[.slice A l.length c, .int .i64 6, .int .i64 9] w (GaveD w (someL l 6 (9 : Nat))) from some_any A l c 6 9 w hr hl hd (by decide) (by decide))
  have hdi : AreDice (someL l 6 (9 : Nat)) := someL_dice l (by decide) (by decide) (by decide)
  obtain ⟨ds, hds⟩ : ∃ ds, someL l 6 (9 : Nat) = ds := ⟨_, rfl⟩
  rw [hds] at HS hdi
  have HDI := Lib.hid hdi
  have hlen := hdi.len
  have HA := Lib.hid awake_any
  clear hr hds hdi hd
  go_enter Try.func7, Try.ntmps7
  go_wp2_with fail
  refine HS.out.mono ?_
  rintro e w1 ⟨v, G, K, rfl, hv, hb1⟩
  obtain ⟨Ax, cx, rfl, hcx, hrx⟩ := hv.reads
  have HB1 := Lib.hid hb1
  have HRX := Lib.hid hrx
  clear hv hb1 hrx HS
  go_wp2_with fail
  refine (Beats_ok Ax ds cx w1 HRX.out HDI.out).mono ?_
  rintro e w2 ⟨T, g, rfl, htab, hb2⟩
  have HT := Lib.hid htab
  have HB2 := Lib.hid (keepC HB1.out hb2)
  have HR2 := Lib.hid ((HRX.out.below hb2).more hb2.size)
  clear htab hb2 HRX HB1
  go_wp2_with fail
  go_loopg [6] ds.length (fun gg i wx => ∃ k : Nat, k + gg = ds.length ∧ i = .int .i64 k ∧ Hid (∃ n, w2.drewN n = wx))
  case atStart => exact ⟨0, by omega, rfl, Lib.hid ⟨0, rfl⟩⟩
  case round =>
    obtain ⟨i, hi, rfl, HW⟩ := hrel
    have HBR := Lib.hid (show Below w.heap.size w wr by obtain ⟨n, hn⟩ := HW.out; rw [← hn]; exact Below.drewN_ HB2.out n)
    cases gk with
    | zero =>
      obtain rfl : i = ds.length := by omega
      go_wp2_with fail
      refine (HA.out _).mono ?_
      rintro e w7 ⟨rfl, hb7⟩
      have HB7 := Lib.hid (keepC HBR.out hb7)
      clear HBR hb7
      go_wp2_with fail
      go_ret
      exact ⟨rfl, HB7.out⟩
    | succ gg =>
      have hil : i < ds.length := by omega
      have hcell := (HT.out.at_ hil hil).1
      have hcell2 : wr.cell? ⟨T, i, none⟩ = some (.slice (some ⟨g i, 0, none⟩) ds.length ds.length) := by obtain ⟨n, hn⟩ := HW.out; rw [← hn]; simpa using hcell
      have hi1 : (i : Int) < (ds.length : Int) := by omega
      have hi0 : (0 : Int) ≤ (i : Int) := by omega
      clear hcell
      go_wp2_with fail
      clear hcell2
      go_loopg [7] ds.length (fun gg k wx => ∃ j : Nat, j + gg = ds.length ∧ k = .int .i64 j ∧ Hid (∃ n, w2.drewN n = wx))
      case atStart => exact ⟨0, by omega, rfl, HW⟩
      case round =>
        obtain ⟨k, hk, rfl, HW2⟩ := hrel
        cases gk with
        | zero =>
          obtain rfl : k = ds.length := by omega
          go_wp2_with fail
          go_roundg gg
          case measure => omega
          case rel => exact ⟨i + 1, by omega, by go_num, HW2⟩
        | succ gg2 =>
          have hkl : k < ds.length := by omega
          obtain ⟨n, hn⟩ := HW2.out
          have ht := (HT.out.drewN n).at_ hil hkl
          rw [hn] at ht
          obtain ⟨ht1, ht2⟩ := ht
          obtain ⟨b, o, a1, c1, d1, hA, hb, hx1, hc1, hd1, hr1⟩ := (HR2.out.drewN n).at_ (k := i) hil
          subst hA
          obtain ⟨_, _, a2, c2, d2, hA, _, hx2, hc2, hd2, hr2⟩ := (HR2.out.drewN n).at_ (k := k) hkl
          cases hA
          rw [hn] at hc1 hc2 hr1 hr2
          have HBT := Lib.hid (show decide (lessL (rollL [d1, d2] []) < moreL (rollL [d1, d2] [])) = bt ds i k by
            rw [bt_is]
            simp [List.getD, hx1, hx2])
          have hl1 : d1.length ≤ 8 := (HDI.out.die d1 (List.mem_of_getElem? hx1)).ok.1
          have hl2 : d2.length ≤ 8 := (HDI.out.die d2 (List.mem_of_getElem? hx2)).ok.1
          have HCB := Lib.hid (fun m => RBeats_any a1 a2 d1 d2 c1 c2 w2.heap.size (wr.drewN m) (hr1.drewN m) (hr2.drewN m) (by omega) (by omega))
          rw [HBT.out] at HCB
          have hk1 : (k : Int) < (ds.length : Int) := by omega
          have hk0 : (0 : Int) ≤ (k : Int) := by omega
          clear hn hx1 hx2 hr1 hr2
          cases hbt : bt ds i k
          all_goals
            rw [hbt] at ht2 HCB
            clear hbt HBT
            go_wp2_with fail
            go_quiet ((go_at_call 41; exact quiet_d0 (HCB.out _)))
            go_wp2_with fail
            go_roundg gg2
            case measure => omega
            case rel => exact ⟨k + 1, by omega, by go_num, Lib.hid (drew_more HW2.out _)⟩

set_option maxRecDepth 100000 in
theorem beats_row (os : Os) (started : os.Started) (H : Type) (enc : TypeId × Value → H) :
    ReturnsInHanded {} Try.checked os 7 .any (Rows.diceBeatsSpec.pre6 enc Try.prog Try.f7 Rows.diceBeatsRow.domain false) (Rows.diceBeatsSpec.post enc Try.prog Try.f7 false true false false) := by
  refine returnsInHanded_of_change (C := Try.checked) ownNone started (by kernel_rfl) Try.func7
    (ChangeSpec.witness6 (enc := enc) (C := Try.checked) false ⟨#[], #[.slice none 0 0], []⟩ 8 (by kernel_rfl) (by kernel_rfl) (by kernel_rfl) (by kernel_rfl)) ?_
  intro W base args ds gs before hval hW _ _
  have hW2 := hW
  obtain ⟨p, q, hA, hV, rfl, _, _⟩ := hW2
  have hA : DataW.TrodAll enc Try.prog W 0 (fun _ => true) true Try.f7.params.toList args.toList ds p := hA
  have hAk := hA
  have hval : ∀ (j : Nat) t v, Try.f7.params[j]? = some t → args[j]? = some v → Value.okWide Try.prog W .any base t v := hval
  rw [Try.params7] at hA hval
  obtain ⟨v0, vs0, d0, ds0, p0, q0, hargs, rfl, rfl, h0, r0⟩ := trodAll_cons hA
  obtain ⟨rfl, rfl, rfl⟩ := trodAll_nil r0
  obtain rfl : args = #[v0] := by cases args; simp_all
  obtain ⟨rfl, rfl⟩ := trodVars_none hV
  obtain ⟨A0, z0, c0, rfl, _, m0, hr0, e0⟩ := open_dice (hval 0 22 v0 rfl rfl) h0
  clear hA hval
  simp only [List.append_nil] at hW hAk
  refine (beats_law A0 z0 c0 W hr0 m0 e0).mono fun e W' ⟨he, hb⟩ => ?_
  subst he
  exact ⟨_, rfl, post_bool hW hb (by rw [Try.params7]; decide) hAk (fun _ => rfl) rfl rfl (by kernel_rfl)⟩

theorem beats_holds : Rows.DiceBeatsSaid :=
  OpenClaim.holds_of_wide 7 Try.f7 rfl rfl rfl rfl rfl rfl rfl ⟨rfl, rfl, rfl, rfl, rfl⟩ rfl rfl rfl rfl rfl (by kernel_rfl) Try.func7 (by kernel_rfl)
    (of_decide_eq_true (by kernel_rfl)) (by unfold Func.isWrapper; first | (rw [if_pos (by decide +kernel)]; kernel_rfl) | (rw [if_neg (by decide +kernel)]; exact ⟨rfl, rfl⟩))
    (fun os started H enc _ => beats_row os started H enc)

#print axioms beats_holds
end Go.Proofs.Ytkkholagmjcgiaa
