/- For every integer n: the function PegReiss answers true: on a row of holes the rules' basis has two rules (one for one hole), on a ring two if 3 divides the number of holes, otherwise none. No conditions. -/
import Derived.Test.YthbhengcinkepaaOpen
import Derived.Test.YthbhengcinkepaaPg20
import Derived.Test.YthbhengcinkepaaRemN
import Derived.Test.YthbhengcinkepaaReissL
import Derived.Test.YthbhengcinkepaaAppT
namespace Go.Proofs.Ythbhengcinkepaa
open Go.ChangeShapes Go.WideShapes Go.ChangeAt Go.RowKit Lamp

set_option maxRecDepth 100000 in
set_option maxHeartbeats 8000000 in
theorem preiss_any (a0 : Int) (w : World) :
    Calls Try.prog 12 #[.int .i64 a0] w fun e w' => e = .returned (.bool true) ∧ Below w.heap.size w w' := by
  have ht : (IntKind.u64.wrap a0).tmod 16 = ((remN a0 16 : Nat) : Int) := remN_tmod a0 (m := 16) (by decide)
  have hlt := remN_lt a0 (m := 16) (by decide)
  obtain ⟨r, hr⟩ : ∃ r, remN a0 16 = r := ⟨_, rfl⟩
  rw [hr] at ht hlt
  clear hr
  obtain ⟨n, hn⟩ : ∃ n, n = 1 + r := ⟨_, rfl⟩
  have hn1 : 1 ≤ n := by omega
  have hn16 : n < 17 := by omega
  have HROW := Lib.hid (row_ok n hn16 hn1)
  have HRING := Lib.hid (ring_ok n hn16)
  have hHN := hn
  go_enter Try.func12, Try.ntmps12
  go_upto_region 2 with fail
  rw [show (1 : Int) + (r : Int) = (n : Int) by omega]
  clear ht hlt hn hHN
  go_wp2_with fail
  go_loopw [3, 4] (fun sv i ws => ∃ (k : Nat) (v : Value), v = sv ∧ i = .int .i64 k ∧ k ≤ n - 2 ∧ Hid (OwnT 30 ws w.heap.size v (rowT k)) ∧ Hid (Below w.heap.size w ws)) (fun _ i _ => n - (intOf i).toNat)
  case atStart => exact ⟨0, _, rfl, rfl, by omega, Lib.hid (OwnT.nil_ _ _ _), Lib.hid (Below.refl _ _)⟩
  case round =>
    obtain ⟨k, v, rfl, rfl, hk, HO1, HB1⟩ := hrel
    have HO := HO1
    have HB := HB1
    clear HO1 HB1
    by_cases hgo : k + 2 < n
    · have hgo' : (k : Int) + 2 < (n : Int) := by omega
      have HE := Lib.hid (rowT_succ k)
      have HLEN := Lib.hid (rowT_len k)
      go_wp2_with (at_builtin; refine wpList_addT _ rfl _ _ rfl (OwnT.alloc HO.out _) rfl wr.heap.size _ (k : Int) ((k : Int) + 1) ((k : Int) + 2) rfl (Box.new _ _ _) ?_ ?_ ?_; (have := HLEN.out; omega); (have := HB.out.size; simp; omega); intro v8 w8 hown8 hg8)
      have hblk := HO.out.blk
      have HB8 := Lib.hid (show Below w.heap.size w w8 from (HB.out.alloc HB.out.size _).grown hg8 (by have := HB.out.size; simp; omega) (fun i hi => (hblk i hi).1))
      have HP := Lib.hid (show OwnT 30 w8 w.heap.size v8 (rowT (k + 1)) by rw [HE.out]; exact hown8)
      clear hown8 hg8 hblk
      go_roundw
      case rel => exact ⟨k + 1, v8, rfl, by go_num, by omega, HP, HB8⟩
      case measure => simp [intOf]; omega
    · have hkn : k = n - 2 := by omega
      have hgo' : ¬ (k : Int) + 2 < (n : Int) := by omega
      obtain ⟨hc1, hlen1⟩ := HROW.out
      rw [← hkn] at hc1 hlen1
      obtain ⟨A1, c1, hv1, hra1⟩ := HO.out.reads
      obtain ⟨L, hL⟩ : ∃ L, rowT k = L := ⟨_, rfl⟩
      rw [hL] at hc1 hlen1 hv1 hra1
      subst hv1
      have HRA := Lib.hid hra1
      have HC := Lib.hid hc1
      obtain ⟨m, hm⟩ : ∃ m, min n 2 = m := ⟨_, rfl⟩
      have hmi : min (n : Int) 2 = (m : Int) := by omega
      rw [hm] at hlen1
      have HL1 := Lib.hid hlen1
      clear hc1 hlen1 hra1 hm hkn HO hL
      go_wp2_with fail
      refine (Rules_ok A1 c1 n L wr HRA.out HC.out).mono ?_
      rintro e w2 ⟨v2, rfl, hv2, hb2⟩
      obtain ⟨A2, c2, rfl, _⟩ := hv2.reads
      rw [natV_len, HL1.out]
      have HB2 := Lib.hid (HB.out.trans (hb2.mono HB.out.size))
      have hmm : ((m : Int) == (m : Int)) = true := by simp
      have hmn : ((m : Int) != (m : Int)) = false := by simp
      clear hv2 hb2 HB HRA HC HL1
      by_cases h5 : n < 5
      · have h5' : (n : Int) < 5 := by omega
        go_wp2_with fail
        refine (awake2_any _).mono ?_
        rintro e w6 ⟨rfl, hb6⟩
        go_wp2_with fail
        go_ret
        exact ⟨rfl, HB2.out.trans (hb6.mono HB2.out.size)⟩
      · have h5' : ¬ (n : Int) < 5 := by omega
        have h5n : 5 ≤ n := by omega
        go_wp2_with fail
        have HRG0 := Lib.hid (show OwnT 30 (w2.alloc (Obj.cells #[Value.int .i64 0, Value.int .i64 1, Value.int .i64 2, Value.int .i64 0, Value.int .i64 ((n : Int) - 1), Value.int .i64 ((n : Int) - 2), Value.int .i64 1, Value.int .i64 0, Value.int .i64 ((n : Int) - 1)] 30)) w.heap.size (.slice (some ⟨w2.heap.size, 0, none⟩) 3 3) (ringT n 0) from
          OwnT.fresh 30 w2 w.heap.size [(0, 1, 2), (0, (n : Int) - 1, (n : Int) - 2), (1, 0, (n : Int) - 1)] HB2.out.size (by unfold maxLen; simp))
        have HBG0 := Lib.hid (HB2.out.alloc HB2.out.size (Obj.cells #[Value.int .i64 0, Value.int .i64 1, Value.int .i64 2, Value.int .i64 0, Value.int .i64 ((n : Int) - 1), Value.int .i64 ((n : Int) - 2), Value.int .i64 1, Value.int .i64 0, Value.int .i64 ((n : Int) - 1)] 30))
        go_loopw [7, 8] (fun sv i ws => ∃ (k j : Nat) (v : Value), v = sv ∧ i = .int .i64 j ∧ Hid (j = k + 1) ∧ k ≤ n - 3 ∧ Hid (OwnT 30 ws w.heap.size v (ringT n k)) ∧ Hid (Below w.heap.size w ws)) (fun _ i _ => n - (intOf i).toNat)
        case atStart => exact ⟨0, 1, _, rfl, rfl, Lib.hid rfl, by omega, HRG0, HBG0⟩
        case round =>
          obtain ⟨k, j, v, rfl, rfl, HJ1, hk, HO1, HB1⟩ := hrel
          have HJ := HJ1
          have HO := HO1
          have HB := HB1
          clear HJ1 HO1 HB1 HRG0 HBG0 HB2
          by_cases hgo : j + 2 < n
          · have hgo' : (j : Int) + 2 < (n : Int) := by omega
            have HE := Lib.hid (show ringT n (k + 1) = ringT n k ++ [((j : Int), (j : Int) + 1, (j : Int) + 2)] by rw [HJ.out]; exact ringT_succ n k)
            have HLEN := Lib.hid (ringT_len n k)
            go_wp2_with (at_builtin; refine wpList_addT _ rfl _ _ rfl (OwnT.alloc HO.out _) rfl wr.heap.size _ (j : Int) ((j : Int) + 1) ((j : Int) + 2) rfl (Box.new _ _ _) ?_ ?_ ?_; (have := HLEN.out; omega); (have := HB.out.size; simp; omega); intro v8 w8 hown8 hg8)
            have hblk := HO.out.blk
            have HB8 := Lib.hid (show Below w.heap.size w w8 from (HB.out.alloc HB.out.size _).grown hg8 (by have := HB.out.size; simp; omega) (fun i hi => (hblk i hi).1))
            have HP := Lib.hid (show OwnT 30 w8 w.heap.size v8 (ringT n (k + 1)) by rw [HE.out]; exact hown8)
            clear hown8 hg8 hblk
            go_roundw
            case rel => exact ⟨k + 1, j + 1, v8, rfl, by go_num, Lib.hid (by have := HJ.out; omega), by have := HJ.out; omega, HP, HB8⟩
            case measure => simp [intOf]; omega
          · have hkn : k = n - 3 := by have := HJ.out; omega
            have hgo' : ¬ (j : Int) + 2 < (n : Int) := by omega
            obtain ⟨hc1, hlen1⟩ := HRING.out h5n
            rw [← hkn] at hc1 hlen1
            obtain ⟨A1, c1, hv1, hra1⟩ := HO.out.reads
            obtain ⟨L, hL⟩ : ∃ L, ringT n k = L := ⟨_, rfl⟩
            rw [hL] at hc1 hlen1 hv1 hra1
            subst hv1
            have HRA := Lib.hid hra1
            have HC := Lib.hid hc1
            have HL1 := Lib.hid hlen1
            have hj17 : j ≤ 17 := by have := HJ.out; omega
            clear hc1 hlen1 hra1 hkn HO hL
            go_wp2_with fail
            refine (Rules_ok _ c1 n L wr HRA.out HC.out).mono ?_
            rintro e w3 ⟨v3, rfl, hv3, hb3⟩
            obtain ⟨A3, c3, rfl, _⟩ := hv3.reads
            rw [natV_len, HL1.out]
            have HB3 := Lib.hid (HB.out.trans (hb3.mono HB.out.size))
            clear hv3 hb3 HB HRA HC HL1
            by_cases h3 : n % 3 = 0
            · have h3' : (n : Int).tmod 3 = 0 := by rw [Int.tmod_eq_emod_of_nonneg (by omega)]; omega
              have h3'' : (n : Int) % 3 = 0 := by omega
              rw [if_pos h3]
              go_wp2_with fail
              refine (awake2_any _).mono ?_
              rintro e w6 ⟨rfl, hb6⟩
              go_wp2_with fail
              go_ret
              exact ⟨rfl, HB3.out.trans (hb6.mono HB3.out.size)⟩
            · have h3' : ¬ (n : Int).tmod 3 = 0 := by rw [Int.tmod_eq_emod_of_nonneg (by omega)]; omega
              have h3'' : ¬ (n : Int) % 3 = 0 := by omega
              rw [if_neg h3]
              go_wp2_with fail
              refine (awake2_any _).mono ?_
              rintro e w6 ⟨rfl, hb6⟩
              go_wp2_with fail
              go_ret
              exact ⟨rfl, HB3.out.trans (hb6.mono HB3.out.size)⟩
set_option maxRecDepth 100000 in
theorem preiss_row (os : Os) (started : os.Started) (H : Type) (enc : TypeId × Value → H) :
    ReturnsInHanded {} Try.checked os 12 .any (Rows.pegReissSpec.pre6 enc Try.prog Try.f12 Rows.pegReissRow.domain false) (Rows.pegReissSpec.post enc Try.prog Try.f12 false true false false) := by
  refine returnsInHanded_of_change (C := Try.checked) ownNone started (by kernel_rfl) Try.func12
    (ChangeSpec.witness6 (enc := enc) (C := Try.checked) false ⟨#[], #[.int .i64 0], []⟩ 8 (by kernel_rfl) (by kernel_rfl) (by kernel_rfl) (by kernel_rfl)) ?_
  intro W base args ds gs before hval hW _ _
  have hW2 := hW
  obtain ⟨p, q, hA, hV, rfl, _, _⟩ := hW2
  have hA : DataW.TrodAll enc Try.prog W 0 (fun _ => true) true Try.f12.params.toList args.toList ds p := hA
  have hval : ∀ (j : Nat) t v, Try.f12.params[j]? = some t → args[j]? = some v → Value.okWide Try.prog W .any base t v := hval
  rw [Try.params12] at hA hval
  obtain ⟨v0, vs0, d0, ds0, p0, q0, hargs, rfl, rfl, h0, r0⟩ := trodAll_cons hA
  obtain ⟨rfl, rfl, rfl⟩ := trodAll_nil r0
  obtain rfl : args = #[v0] := by cases args; simp_all
  obtain ⟨rfl, rfl⟩ := trodVars_none hV
  obtain ⟨a0, rfl, rfl, rfl, w0⟩ := open_int Try.underlying3 (hval 0 3 v0 rfl rfl) h0
  clear hA hval
  simp only [List.append_nil] at hW
  refine (preiss_any a0 W).mono fun e W' ⟨he, hb⟩ => ?_
  subst he
  exact ⟨_, rfl, post_still hW hb (fun _ => rfl) (fun sp _ => trodAll_cons_mk (shut_int Try.underlying3 w0) trodAll_mk0) (fun _ _ _ => trodAll_cons_mk (shut_bool Try.underlying4 _) trodAll_mk0)
    (ok_one (by kernel_rfl) rfl (okWide_bool_mk Try.underlying4 _))⟩

theorem preiss_holds : Rows.PegReissSaid :=
  OpenClaim.holds_of_wide 12 Try.f12 rfl rfl rfl rfl rfl rfl rfl ⟨rfl, rfl, rfl, rfl, rfl⟩ rfl rfl rfl rfl rfl (by kernel_rfl) Try.func12 (by kernel_rfl)
    (of_decide_eq_true (by kernel_rfl)) (by unfold Func.isWrapper; first | (rw [if_pos (by decide +kernel)]; kernel_rfl) | (rw [if_neg (by decide +kernel)]; exact ⟨rfl, rfl⟩))
    (fun os started H enc _ => preiss_row os started H enc)

#print axioms preiss_holds
end Go.Proofs.Ythbhengcinkepaa
