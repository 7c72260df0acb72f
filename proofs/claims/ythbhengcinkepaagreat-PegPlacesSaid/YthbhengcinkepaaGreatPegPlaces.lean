/- For every integer n, list of triples of integers l and integer p of: the function PegPlaces answers true: of positions out of range every function with positions returns ErrArg. No conditions. -/
import Derived.Test.YthbhengcinkepaaGreatOpenT
import Derived.Test.YthbhengcinkepaaGreatPg20
import Derived.Test.YthbhengcinkepaaGreatTameT
import Derived.Test.YthbhengcinkepaaGreatSolN
namespace Go.Proofs.YthbhengcinkepaaGreat
open Go.ChangeShapes Go.WideShapes Go.ChangeAt Go.RowKit Go.WideMaps Lamp

theorem wrap_pow {P : Nat} (h : P ≤ 65536) : IntKind.i64.wrap (P : Int) = (P : Int) := IntWalk.i64_in _ (by omega)

set_option maxRecDepth 100000 in
set_option maxHeartbeats 8000000 in
theorem pplaces_any (a0 : Int) (A : Option Addr) (l : List Tri) (c : Nat) (p : Int) (w : World) (hr : RTri w w.heap.size A l) (hl : l.length ≤ 9223372036854775807) :
    Calls Tryz.prog 4 #[.int .i64 a0, .slice A l.length c, .int .i64 p] w fun e w' => e = .returned (.bool true) ∧ Below w.heap.size w w' := by
  have hm := remN_lt a0 (m := 16) (by decide)
  obtain ⟨n, hn⟩ : ∃ n, 1 + remN a0 16 = n := ⟨_, rfl⟩
  have hn1 : 1 ≤ n := by omega
  have hn16 : n ≤ 16 := by omega
  have HT := Lib.hid (fun (w1 : World) (h : RTri w1 w1.heap.size A l) => tameT_any A a0 l c 16 20 w1 h hl (by decide) (by decide) (by decide))
  rw [hn] at HT
  have hpw := pow_split hn16
  have hp0 := Nat.two_pow_pos n
  have hpi : (2 : Int) ^ n = ((2 ^ n : Nat) : Int) := by simp
  have HIN := Lib.hid (show ∀ x : Int, inPos (n : Int) x = (decide (0 ≤ x) && decide (x < ((2 ^ n : Nat) : Int))) from fun x => by unfold inPos; rw [Int.toNat_natCast, hpi])
  obtain ⟨P, hP⟩ : ∃ P, 2 ^ n = P := ⟨_, rfl⟩
  rw [hP] at hpw hp0 hpi HIN
  have hP2 : (2 : Int) ^ n = (P : Int) := hpi
  have hwP2 : wrap64 (P : Int) = (P : Int) := w64 (by omega)
  have hwP3 := wrap_pow hpw
  have HR0 := Lib.hid hr
  have hn16i : (n : Int) ≤ 16 := by omega
  clear hr hl hm hn hP
  go_enter Tryz.func4, Tryz.ntmps4
  go_wp2_with fail
  refine (HT.out _ HR0.out).mono ?_
  rintro e w1 ⟨v1, rfl, L, hc, hLK, ho, hb⟩
  obtain ⟨A1, c1, rfl, hrd⟩ := ho.reads
  have HC := Lib.hid hc
  have HB := Lib.hid hb
  have HR := Lib.hid hrd
  clear hc hb hrd ho HT HR0
  by_cases h0 : 0 ≤ p
  · by_cases h1 : p < (P : Int)
    · go_wp2_with fail
      refine (awake2_any _).mono ?_
      rintro e w8 ⟨rfl, hb8⟩
      have HB8 := Lib.hid (HB.out.trans (hb8.mono HB.out.size))
      go_wp2_with fail
      go_ret
      exact ⟨rfl, HB8.out⟩
    · have HNO := Lib.hid (show inPos (n : Int) p = false by rw [HIN.out, decide_eq_false h1]; simp)
      have HZ1 := Lib.hid (show checkPs (n : Int) L [p] = 1 from checkPs_arg HC.out (by simp [HNO.out]))
      have HZ2 := Lib.hid (show checkPs (n : Int) L [0, p] = 1 from checkPs_arg HC.out (by simp [HNO.out]))
      have HZ3 := Lib.hid (show checkPs (n : Int) L [p, 0] = 1 from checkPs_arg HC.out (by simp [HNO.out]))
      have HZ4 := Lib.hid (show checkPs (n : Int) L [p, p] = 1 from checkPs_arg HC.out (by simp [HNO.out]))
      have hmi := make_ints0 n (by omega)
      have hmp := make_pairs0 L.length (by omega)
      obtain ⟨wa, rfl⟩ : ∃ wa : World, wa = w1 := ⟨_, rfl⟩
      go_wp2_with fail
      refine (Jumps_no A1 c1 n p L _ HR.out (by omega) HZ1.out (by decide)).mono ?_
      rintro e wb ⟨rfl, hb⟩
      have HBn := Lib.hid (HB.out.trans (hb.mono HB.out.size))
      have HRn := Lib.hid (HR.out.up hb)
      clear hb HB HR
      have HB := HBn
      have HR := HRn
      clear HBn HRn
      obtain ⟨w20, rfl⟩ : ∃ w20 : World, w20 = wb := ⟨_, rfl⟩
      go_wp2_with fail
      refine (Play_no A1 c1 n p none 0 0 L _ HR.out (by omega) HZ1.out (by decide)).mono ?_
      rintro e wb ⟨rfl, hb⟩
      have HBn := Lib.hid (HB.out.trans (hb.mono HB.out.size))
      have HRn := Lib.hid (HR.out.up hb)
      clear hb HB HR
      have HB := HBn
      have HR := HRn
      clear HBn HRn
      obtain ⟨w21, rfl⟩ : ∃ w21 : World, w21 = wb := ⟨_, rfl⟩
      go_wp2_with fail
      refine (Solve_no A1 c1 n 0 p L _ HR.out (by omega) HZ2.out (by decide)).mono ?_
      rintro e wb ⟨rfl, hb⟩
      have HBn := Lib.hid (HB.out.trans (hb.mono HB.out.size))
      have HRn := Lib.hid (HR.out.up hb)
      clear hb HB HR
      have HB := HBn
      have HR := HRn
      clear HBn HRn
      obtain ⟨w22, rfl⟩ : ∃ w22 : World, w22 = wb := ⟨_, rfl⟩
      go_wp2_with fail
      refine (Solve_no A1 c1 n p 0 L _ HR.out (by omega) HZ3.out (by decide)).mono ?_
      rintro e wb ⟨rfl, hb⟩
      have HBn := Lib.hid (HB.out.trans (hb.mono HB.out.size))
      have HRn := Lib.hid (HR.out.up hb)
      clear hb HB HR
      have HB := HBn
      have HR := HRn
      clear HBn HRn
      obtain ⟨w23, rfl⟩ : ∃ w23 : World, w23 = wb := ⟨_, rfl⟩
      go_wp2_with fail
      refine (Reached_no A1 c1 n p L _ HR.out (by omega) HZ1.out (by decide)).mono ?_
      rintro e wb ⟨rfl, hb⟩
      have HBn := Lib.hid (HB.out.trans (hb.mono HB.out.size))
      have HRn := Lib.hid (HR.out.up hb)
      clear hb HB HR
      have HB := HBn
      have HR := HRn
      clear HBn HRn
      obtain ⟨w24, rfl⟩ : ∃ w24 : World, w24 = wb := ⟨_, rfl⟩
      go_wp2_with fail
      refine (Fewest_no A1 c1 n p L _ HR.out (by omega) HZ1.out (by decide)).mono ?_
      rintro e wb ⟨rfl, hb⟩
      have HBn := Lib.hid (HB.out.trans (hb.mono HB.out.size))
      have HRn := Lib.hid (HR.out.up hb)
      clear hb HB HR
      have HB := HBn
      have HR := HRn
      clear HBn HRn
      obtain ⟨w25, rfl⟩ : ∃ w25 : World, w25 = wb := ⟨_, rfl⟩
      go_wp2_with fail
      refine (Alike_no A1 c1 n 0 p L _ HR.out (by omega) HZ2.out (by decide)).mono ?_
      rintro e wb ⟨rfl, hb⟩
      have HBn := Lib.hid (HB.out.trans (hb.mono HB.out.size))
      have HRn := Lib.hid (HR.out.up hb)
      clear hb HB HR
      have HB := HBn
      have HR := HRn
      clear HBn HRn
      obtain ⟨w26, rfl⟩ : ∃ w26 : World, w26 = wb := ⟨_, rfl⟩
      go_wp2_with fail
      have HB9 := Lib.hid (HB.out.alloc HB.out.size (.cells (madeCells #[Value.int .i64 0] n) 3))
      have HR9 := Lib.hid (HR.out.up ((Below.refl _ _).alloc (Nat.le_refl _) (.cells (madeCells #[Value.int .i64 0] n) 3)))
      clear HB HR
      have HB := HB9
      have HR := HR9
      clear HB9 HR9
      refine (Refutes_no A1 c1 n 0 p _ _ _ L _ HR.out (by omega) HZ2.out (by decide)).mono ?_
      rintro e wb ⟨rfl, hb⟩
      have HBn := Lib.hid (HB.out.trans (hb.mono HB.out.size))
      have HRn := Lib.hid (HR.out.up hb)
      clear hb HB HR
      have HB := HBn
      have HR := HRn
      clear HBn HRn
      obtain ⟨w27, rfl⟩ : ∃ w27 : World, w27 = wb := ⟨_, rfl⟩
      go_wp2_with fail
      refine (Pagoda_no A1 c1 n p 0 L _ HR.out (by omega) HZ3.out (by decide)).mono ?_
      rintro e wb ⟨rfl, hb⟩
      have HBn := Lib.hid (HB.out.trans (hb.mono HB.out.size))
      have HRn := Lib.hid (HR.out.up hb)
      clear hb HB HR
      have HB := HBn
      have HR := HRn
      clear HBn HRn
      obtain ⟨w28, rfl⟩ : ∃ w28 : World, w28 = wb := ⟨_, rfl⟩
      go_wp2_with fail
      refine (Plan_no A1 c1 n 0 p L _ HR.out (by omega) HZ2.out (by decide)).mono ?_
      rintro e wb ⟨rfl, hb⟩
      have HBn := Lib.hid (HB.out.trans (hb.mono HB.out.size))
      have HRn := Lib.hid (HR.out.up hb)
      clear hb HB HR
      have HB := HBn
      have HR := HRn
      clear HBn HRn
      obtain ⟨w29, rfl⟩ : ∃ w29 : World, w29 = wb := ⟨_, rfl⟩
      go_wp2_with fail
      have HB9 := Lib.hid (HB.out.alloc HB.out.size (.cells (madeCells #[Value.int .i64 0, Value.int .i64 0] (L.length * 2)) 52))
      have HR9 := Lib.hid (HR.out.up ((Below.refl _ _).alloc (Nat.le_refl _) (.cells (madeCells #[Value.int .i64 0, Value.int .i64 0] (L.length * 2)) 52)))
      clear HB HR
      refine (IsPlan_no A1 c1 n p p 1 _ _ _ L _ HR9.out (by omega) HZ4.out (by decide)).mono ?_
      rintro e wb ⟨rfl, hb⟩
      have HB := Lib.hid (HB9.out.trans (hb.mono HB9.out.size))
      clear hb HB9 HR9
      go_wp2_with fail
      refine (awake2_any _).mono ?_
      rintro e w8 ⟨rfl, hb8⟩
      have HB8 := Lib.hid (HB.out.trans (hb8.mono HB.out.size))
      go_wp2_with fail
      go_ret
      exact ⟨rfl, HB8.out⟩
  · have HNO := Lib.hid (show inPos (n : Int) p = false by rw [HIN.out, decide_eq_false h0]; simp)
    have HZ1 := Lib.hid (show checkPs (n : Int) L [p] = 1 from checkPs_arg HC.out (by simp [HNO.out]))
    have HZ2 := Lib.hid (show checkPs (n : Int) L [0, p] = 1 from checkPs_arg HC.out (by simp [HNO.out]))
    have HZ3 := Lib.hid (show checkPs (n : Int) L [p, 0] = 1 from checkPs_arg HC.out (by simp [HNO.out]))
    have HZ4 := Lib.hid (show checkPs (n : Int) L [p, p] = 1 from checkPs_arg HC.out (by simp [HNO.out]))
    have hmi := make_ints0 n (by omega)
    have hmp := make_pairs0 L.length (by omega)
    obtain ⟨wa, rfl⟩ : ∃ wa : World, wa = w1 := ⟨_, rfl⟩
    go_wp2_with fail
    refine (Jumps_no A1 c1 n p L _ HR.out (by omega) HZ1.out (by decide)).mono ?_
    rintro e wb ⟨rfl, hb⟩
    have HBn := Lib.hid (HB.out.trans (hb.mono HB.out.size))
    have HRn := Lib.hid (HR.out.up hb)
    clear hb HB HR
    have HB := HBn
    have HR := HRn
    clear HBn HRn
    obtain ⟨w20, rfl⟩ : ∃ w20 : World, w20 = wb := ⟨_, rfl⟩
    go_wp2_with fail
    refine (Play_no A1 c1 n p none 0 0 L _ HR.out (by omega) HZ1.out (by decide)).mono ?_
    rintro e wb ⟨rfl, hb⟩
    have HBn := Lib.hid (HB.out.trans (hb.mono HB.out.size))
    have HRn := Lib.hid (HR.out.up hb)
    clear hb HB HR
    have HB := HBn
    have HR := HRn
    clear HBn HRn
    obtain ⟨w21, rfl⟩ : ∃ w21 : World, w21 = wb := ⟨_, rfl⟩
    go_wp2_with fail
    refine (Solve_no A1 c1 n 0 p L _ HR.out (by omega) HZ2.out (by decide)).mono ?_
    rintro e wb ⟨rfl, hb⟩
    have HBn := Lib.hid (HB.out.trans (hb.mono HB.out.size))
    have HRn := Lib.hid (HR.out.up hb)
    clear hb HB HR
    have HB := HBn
    have HR := HRn
    clear HBn HRn
    obtain ⟨w22, rfl⟩ : ∃ w22 : World, w22 = wb := ⟨_, rfl⟩
    go_wp2_with fail
    refine (Solve_no A1 c1 n p 0 L _ HR.out (by omega) HZ3.out (by decide)).mono ?_
    rintro e wb ⟨rfl, hb⟩
    have HBn := Lib.hid (HB.out.trans (hb.mono HB.out.size))
    have HRn := Lib.hid (HR.out.up hb)
    clear hb HB HR
    have HB := HBn
    have HR := HRn
    clear HBn HRn
    obtain ⟨w23, rfl⟩ : ∃ w23 : World, w23 = wb := ⟨_, rfl⟩
    go_wp2_with fail
    refine (Reached_no A1 c1 n p L _ HR.out (by omega) HZ1.out (by decide)).mono ?_
    rintro e wb ⟨rfl, hb⟩
    have HBn := Lib.hid (HB.out.trans (hb.mono HB.out.size))
    have HRn := Lib.hid (HR.out.up hb)
    clear hb HB HR
    have HB := HBn
    have HR := HRn
    clear HBn HRn
    obtain ⟨w24, rfl⟩ : ∃ w24 : World, w24 = wb := ⟨_, rfl⟩
    go_wp2_with fail
    refine (Fewest_no A1 c1 n p L _ HR.out (by omega) HZ1.out (by decide)).mono ?_
    rintro e wb ⟨rfl, hb⟩
    have HBn := Lib.hid (HB.out.trans (hb.mono HB.out.size))
    have HRn := Lib.hid (HR.out.up hb)
    clear hb HB HR
    have HB := HBn
    have HR := HRn
    clear HBn HRn
    obtain ⟨w25, rfl⟩ : ∃ w25 : World, w25 = wb := ⟨_, rfl⟩
    go_wp2_with fail
    refine (Alike_no A1 c1 n 0 p L _ HR.out (by omega) HZ2.out (by decide)).mono ?_
    rintro e wb ⟨rfl, hb⟩
    have HBn := Lib.hid (HB.out.trans (hb.mono HB.out.size))
    have HRn := Lib.hid (HR.out.up hb)
    clear hb HB HR
    have HB := HBn
    have HR := HRn
    clear HBn HRn
    obtain ⟨w26, rfl⟩ : ∃ w26 : World, w26 = wb := ⟨_, rfl⟩
    go_wp2_with fail
    have HB9 := Lib.hid (HB.out.alloc HB.out.size (.cells (madeCells #[Value.int .i64 0] n) 3))
    have HR9 := Lib.hid (HR.out.up ((Below.refl _ _).alloc (Nat.le_refl _) (.cells (madeCells #[Value.int .i64 0] n) 3)))
    clear HB HR
    have HB := HB9
    have HR := HR9
    clear HB9 HR9
    refine (Refutes_no A1 c1 n 0 p _ _ _ L _ HR.out (by omega) HZ2.out (by decide)).mono ?_
    rintro e wb ⟨rfl, hb⟩
    have HBn := Lib.hid (HB.out.trans (hb.mono HB.out.size))
    have HRn := Lib.hid (HR.out.up hb)
    clear hb HB HR
    have HB := HBn
    have HR := HRn
    clear HBn HRn
    obtain ⟨w27, rfl⟩ : ∃ w27 : World, w27 = wb := ⟨_, rfl⟩
    go_wp2_with fail
    refine (Pagoda_no A1 c1 n p 0 L _ HR.out (by omega) HZ3.out (by decide)).mono ?_
    rintro e wb ⟨rfl, hb⟩
    have HBn := Lib.hid (HB.out.trans (hb.mono HB.out.size))
    have HRn := Lib.hid (HR.out.up hb)
    clear hb HB HR
    have HB := HBn
    have HR := HRn
    clear HBn HRn
    obtain ⟨w28, rfl⟩ : ∃ w28 : World, w28 = wb := ⟨_, rfl⟩
    go_wp2_with fail
    refine (Plan_no A1 c1 n 0 p L _ HR.out (by omega) HZ2.out (by decide)).mono ?_
    rintro e wb ⟨rfl, hb⟩
    have HBn := Lib.hid (HB.out.trans (hb.mono HB.out.size))
    have HRn := Lib.hid (HR.out.up hb)
    clear hb HB HR
    have HB := HBn
    have HR := HRn
    clear HBn HRn
    obtain ⟨w29, rfl⟩ : ∃ w29 : World, w29 = wb := ⟨_, rfl⟩
    go_wp2_with fail
    have HB9 := Lib.hid (HB.out.alloc HB.out.size (.cells (madeCells #[Value.int .i64 0, Value.int .i64 0] (L.length * 2)) 52))
    have HR9 := Lib.hid (HR.out.up ((Below.refl _ _).alloc (Nat.le_refl _) (.cells (madeCells #[Value.int .i64 0, Value.int .i64 0] (L.length * 2)) 52)))
    clear HB HR
    refine (IsPlan_no A1 c1 n p p 1 _ _ _ L _ HR9.out (by omega) HZ4.out (by decide)).mono ?_
    rintro e wb ⟨rfl, hb⟩
    have HB := Lib.hid (HB9.out.trans (hb.mono HB9.out.size))
    clear hb HB9 HR9
    go_wp2_with fail
    refine (awake2_any _).mono ?_
    rintro e w8 ⟨rfl, hb8⟩
    have HB8 := Lib.hid (HB.out.trans (hb8.mono HB.out.size))
    go_wp2_with fail
    go_ret
    exact ⟨rfl, HB8.out⟩
set_option maxRecDepth 100000 in
theorem pplaces_row (os : Os) (started : os.Started) (H : Type) (enc : TypeId × Value → H) :
    ReturnsInHanded {} Tryz.checked os 4 .any (Rows.pegPlacesSpec.pre6 enc Tryz.prog Tryz.f4 Rows.pegPlacesRow.domain false) (Rows.pegPlacesSpec.post enc Tryz.prog Tryz.f4 false true false false) := by
  refine returnsInHanded_of_change (C := Tryz.checked) ownNone started (by kernel_rfl) Tryz.func4
    (ChangeSpec.witness6 (enc := enc) (C := Tryz.checked) false ⟨#[], #[.int .i64 0, .slice none 0 0, .int .i64 0], []⟩ 8 (by kernel_rfl) (by kernel_rfl) (by kernel_rfl) (by kernel_rfl)) ?_
  intro W base args ds gs before hval hW _ _
  have hW2 := hW
  obtain ⟨p, q, hA, hV, rfl, _, _⟩ := hW2
  have hA : DataW.TrodAll enc Tryz.prog W 0 (fun _ => true) true Tryz.f4.params.toList args.toList ds p := hA
  have hAk := hA
  have hval : ∀ (j : Nat) t v, Tryz.f4.params[j]? = some t → args[j]? = some v → Value.okWide Tryz.prog W .any base t v := hval
  rw [Tryz.params4] at hA hval
  obtain ⟨v0, vs0, d0, ds0, p0, q0, hargs, rfl, rfl, h0, r0⟩ := trodAll_cons hA
  obtain ⟨v1, vs1, d1, ds1, p1, q1, rfl, rfl, rfl, h1, r1⟩ := trodAll_cons r0
  obtain ⟨v2, vs2, d2, ds2, p2, q2, rfl, rfl, rfl, h2, r2⟩ := trodAll_cons r1
  obtain ⟨rfl, rfl, rfl⟩ := trodAll_nil r2
  obtain rfl : args = #[v0, v1, v2] := by cases args; simp_all
  obtain ⟨rfl, rfl⟩ := trodVars_none hV
  obtain ⟨a0, rfl, rfl, rfl, w0⟩ := open_int Tryz.underlying3 (hval 0 3 v0 rfl rfl) h0
  obtain ⟨A1, z1, c1, rfl, _, m1, hr1⟩ := open_tris (hval 1 22 v1 rfl rfl) h1
  obtain ⟨a2, rfl, rfl, rfl, w2⟩ := open_int Tryz.underlying3 (hval 2 3 v2 rfl rfl) h2
  clear hA hval
  simp only [List.append_nil, List.nil_append] at hW hAk
  refine (pplaces_any a0 A1 z1 c1 a2 W hr1 m1).mono fun e W' ⟨he, hb⟩ => ?_
  subst he
  exact ⟨_, rfl, post_bool hW hb (by rw [Tryz.params4]; decide) hAk (fun _ => rfl) rfl rfl (by kernel_rfl)⟩

theorem pplaces_holds : Rows.PegPlacesSaid :=
  OpenClaim.holds_of_wide 4 Tryz.f4 rfl rfl rfl rfl rfl rfl rfl ⟨rfl, rfl, rfl, rfl, rfl⟩ rfl rfl rfl rfl rfl (by kernel_rfl) Tryz.func4 (by kernel_rfl)
    (of_decide_eq_true (by kernel_rfl)) (by unfold Func.isWrapper; first | (rw [if_pos (by decide +kernel)]; kernel_rfl) | (rw [if_neg (by decide +kernel)]; exact ⟨rfl, rfl⟩))
    (fun os started H enc _ => pplaces_row os started H enc)

#print axioms pplaces_holds
end Go.Proofs.YthbhengcinkepaaGreat
