/- For every integer n, list of triples of integers l and integer p of: the function PegChecks answers true: whether any data are a board, and otherwise every function returns the same error. No conditions. -/
import Derived.Test.YthbhengcinkepaaGreatOwn2
import Derived.Test.YthbhengcinkepaaGreatPg20
import Derived.Test.YthbhengcinkepaaGreatRCheck2
import Derived.Test.YthbhengcinkepaaGreatSolN
namespace Go.Proofs.YthbhengcinkepaaGreat
open Go.ChangeShapes Go.WideShapes Go.ChangeAt Go.RowKit Go.WideMaps Lamp

set_option maxRecDepth 100000 in
set_option maxHeartbeats 8000000 in
theorem pchecks_any (n : Int) (A : Option Addr) (l : List Tri) (c : Nat) (p : Int) (w : World) (hr : RTri w w.heap.size A l) (hcap : l.length ≤ c) (hl : l.length ≤ 9223372036854775807) :
    Calls Tryz.prog 3 #[.int .i64 n, .slice A l.length c, .int .i64 p] w fun e w' => e = .returned (.bool true) ∧ Below w.heap.size w w' := by
  have HOW := Lib.hid (own2_any A c l w hr hcap hl)
  have hXL : (l.take 41).length ≤ 41 := by rw [List.length_take]; omega
  obtain ⟨L, hL⟩ : ∃ L, l.take 41 = L := ⟨_, rfl⟩
  rw [hL] at HOW hXL
  clear hr hcap hL
  go_enter Tryz.func3, Tryz.ntmps3
  go_wp2_with fail
  refine HOW.out.mono ?_
  rintro e w1 ⟨v1, rfl, ho, hb⟩
  obtain ⟨A1, c1, rfl, hrd⟩ := ho.reads
  have HB := Lib.hid hb
  have HR := Lib.hid hrd
  clear hb hrd ho HOW
  have hLL : L.length ≤ 1000000 := by omega
  obtain ⟨z, hz⟩ : ∃ z, checkT n L = z := ⟨_, rfl⟩
  have HZ := Lib.hid hz
  have HCK := Lib.hid (fun (w8 : World) (h : RTri w8 w8.heap.size A1 L) => Check_any A1 n L c1 w8 h hLL)
  have HRC := Lib.hid (fun (w8 : World) (h : RTri w8 w8.heap.size A1 L) => RCheck2_any A1 n L c1 w8 h hLL)
  rw [hz] at HCK HRC
  have hzz : (z == z) = true := by simp
  have hzn : (z != z) = false := by simp
  clear hz
  go_wp2_with fail
  refine (HRC.out _ HR.out).mono ?_
  rintro e w2 ⟨rfl, hb⟩
  have HB2 := Lib.hid (HB.out.trans (hb.mono HB.out.size))
  have HR2 := Lib.hid (HR.out.up hb)
  clear hb HB HR HRC
  go_wp2_with fail
  refine (HCK.out _ HR2.out).mono ?_
  rintro e w3 ⟨rfl, hb⟩
  have HB := Lib.hid (HB2.out.trans (hb.mono HB2.out.size))
  have HR := Lib.hid (HR2.out.up hb)
  clear hb HB2 HR2 HCK
  by_cases h0 : z = 0
  · have h0b : (z == 0) = true := by simpa using h0
    subst h0
    go_wp2_with fail
    refine (awake2_any _).mono ?_
    rintro e w8 ⟨rfl, hb8⟩
    have HB8 := Lib.hid (HB.out.trans (hb8.mono HB.out.size))
    go_wp2_with fail
    go_ret
    exact ⟨rfl, HB8.out⟩
  · have h0b : (z == 0) = false := by simpa using h0
    have H0 := Lib.hid h0
    have HC0 := Lib.hid (show checkT n L ≠ 0 by rw [HZ.out]; exact h0)
    have HZ1 := Lib.hid (show checkPs n L [p] = z by rw [checkPs_no HC0.out, HZ.out])
    have HZ2 := Lib.hid (show checkPs n L [p, p] = z by rw [checkPs_no HC0.out, HZ.out])
    have HZ3 := Lib.hid (show checkPs n L [0, 0] = z by rw [checkPs_no HC0.out, HZ.out])
    have HRB := Lib.hid (fun (w8 : World) (h : RTri w8 w8.heap.size A1 L) => Rules_bad A1 c1 n L w8 h hLL HC0.out)
    have HIB := Lib.hid (fun (w8 : World) (h : RTri w8 w8.heap.size A1 L) => IsPagoda_bad A1 none c1 0 0 n L w8 h hLL HC0.out)
    rw [HZ.out] at HRB HIB
    have hmp := make_pairs0 L.length hLL
    clear h0
    go_wp2_with fail
    refine (Jumps_no A1 c1 n p L _ HR.out hLL HZ1.out H0.out).mono ?_
    rintro e wb ⟨rfl, hb⟩
    have HBn := Lib.hid (HB.out.trans (hb.mono HB.out.size))
    have HRn := Lib.hid (HR.out.up hb)
    clear hb HB HR
    have HB := HBn
    have HR := HRn
    clear HBn HRn
    obtain ⟨w20, rfl⟩ : ∃ w20 : World, w20 = wb := ⟨_, rfl⟩
    go_wp2_with fail
    refine (Play_no A1 c1 n p none 0 0 L _ HR.out hLL HZ1.out H0.out).mono ?_
    rintro e wb ⟨rfl, hb⟩
    have HBn := Lib.hid (HB.out.trans (hb.mono HB.out.size))
    have HRn := Lib.hid (HR.out.up hb)
    clear hb HB HR
    have HB := HBn
    have HR := HRn
    clear HBn HRn
    obtain ⟨w21, rfl⟩ : ∃ w21 : World, w21 = wb := ⟨_, rfl⟩
    go_wp2_with fail
    refine (Solve_no A1 c1 n p p L _ HR.out hLL HZ2.out H0.out).mono ?_
    rintro e wb ⟨rfl, hb⟩
    have HBn := Lib.hid (HB.out.trans (hb.mono HB.out.size))
    have HRn := Lib.hid (HR.out.up hb)
    clear hb HB HR
    have HB := HBn
    have HR := HRn
    clear HBn HRn
    obtain ⟨w22, rfl⟩ : ∃ w22 : World, w22 = wb := ⟨_, rfl⟩
    go_wp2_with fail
    refine (Reached_no A1 c1 n p L _ HR.out hLL HZ1.out H0.out).mono ?_
    rintro e wb ⟨rfl, hb⟩
    have HBn := Lib.hid (HB.out.trans (hb.mono HB.out.size))
    have HRn := Lib.hid (HR.out.up hb)
    clear hb HB HR
    have HB := HBn
    have HR := HRn
    clear HBn HRn
    obtain ⟨w23, rfl⟩ : ∃ w23 : World, w23 = wb := ⟨_, rfl⟩
    go_wp2_with fail
    refine (Fewest_no A1 c1 n p L _ HR.out hLL HZ1.out H0.out).mono ?_
    rintro e wb ⟨rfl, hb⟩
    have HBn := Lib.hid (HB.out.trans (hb.mono HB.out.size))
    have HRn := Lib.hid (HR.out.up hb)
    clear hb HB HR
    have HB := HBn
    have HR := HRn
    clear HBn HRn
    obtain ⟨w24, rfl⟩ : ∃ w24 : World, w24 = wb := ⟨_, rfl⟩
    go_wp2_with fail
    refine (HRB.out _ HR.out).mono ?_
    rintro e wb ⟨rfl, hb⟩
    have HBn := Lib.hid (HB.out.trans (hb.mono HB.out.size))
    have HRn := Lib.hid (HR.out.up hb)
    clear hb HB HR
    have HB := HBn
    have HR := HRn
    clear HBn HRn
    obtain ⟨w25, rfl⟩ : ∃ w25 : World, w25 = wb := ⟨_, rfl⟩
    go_wp2_with fail
    refine (Alike_no A1 c1 n p p L _ HR.out hLL HZ2.out H0.out).mono ?_
    rintro e wb ⟨rfl, hb⟩
    have HBn := Lib.hid (HB.out.trans (hb.mono HB.out.size))
    have HRn := Lib.hid (HR.out.up hb)
    clear hb HB HR
    have HB := HBn
    have HR := HRn
    clear HBn HRn
    obtain ⟨w26, rfl⟩ : ∃ w26 : World, w26 = wb := ⟨_, rfl⟩
    go_wp2_with fail
    refine (HIB.out _ HR.out).mono ?_
    rintro e wb ⟨rfl, hb⟩
    have HBn := Lib.hid (HB.out.trans (hb.mono HB.out.size))
    have HRn := Lib.hid (HR.out.up hb)
    clear hb HB HR
    have HB := HBn
    have HR := HRn
    clear HBn HRn
    obtain ⟨w27, rfl⟩ : ∃ w27 : World, w27 = wb := ⟨_, rfl⟩
    go_wp2_with fail
    refine (Refutes_no A1 c1 n p p none 0 0 L _ HR.out hLL HZ2.out H0.out).mono ?_
    rintro e wb ⟨rfl, hb⟩
    have HBn := Lib.hid (HB.out.trans (hb.mono HB.out.size))
    have HRn := Lib.hid (HR.out.up hb)
    clear hb HB HR
    have HB := HBn
    have HR := HRn
    clear HBn HRn
    obtain ⟨w28, rfl⟩ : ∃ w28 : World, w28 = wb := ⟨_, rfl⟩
    go_wp2_with fail
    refine (Pagoda_no A1 c1 n p p L _ HR.out hLL HZ2.out H0.out).mono ?_
    rintro e wb ⟨rfl, hb⟩
    have HBn := Lib.hid (HB.out.trans (hb.mono HB.out.size))
    have HRn := Lib.hid (HR.out.up hb)
    clear hb HB HR
    have HB := HBn
    have HR := HRn
    clear HBn HRn
    obtain ⟨w29, rfl⟩ : ∃ w29 : World, w29 = wb := ⟨_, rfl⟩
    go_wp2_with fail
    refine (Plan_no A1 c1 n p p L _ HR.out hLL HZ2.out H0.out).mono ?_
    rintro e wb ⟨rfl, hb⟩
    have HBn := Lib.hid (HB.out.trans (hb.mono HB.out.size))
    have HRn := Lib.hid (HR.out.up hb)
    clear hb HB HR
    have HB := HBn
    have HR := HRn
    clear HBn HRn
    obtain ⟨w30, rfl⟩ : ∃ w30 : World, w30 = wb := ⟨_, rfl⟩
    go_wp2_with fail
    have HB9 := Lib.hid (HB.out.alloc HB.out.size (.cells (madeCells #[Value.int .i64 0, Value.int .i64 0] (L.length * 2)) 52))
    have HR9 := Lib.hid (HR.out.up ((Below.refl _ _).alloc (Nat.le_refl _) (.cells (madeCells #[Value.int .i64 0, Value.int .i64 0] (L.length * 2)) 52)))
    clear HB HR
    refine (IsPlan_no A1 c1 n 0 0 1 _ _ _ L _ HR9.out hLL HZ3.out H0.out).mono ?_
    rintro e wb ⟨rfl, hb⟩
    have HB := Lib.hid (HB9.out.trans (hb.mono HB9.out.size))
    clear hb HB9 HR9
    go_wp2_with fail
    refine (awake2_any _).mono ?_
    rintro e w8 ⟨rfl, hb8⟩
    have HB8 := Lib.hid (HB.out.trans (hb8.mono HB.out.size))
    go_wp2_with fail
    go_ret
    exact ⟨rfl, HB8.out⟩
set_option maxRecDepth 100000 in
theorem pchecks_row (os : Os) (started : os.Started) (H : Type) (enc : TypeId × Value → H) :
    ReturnsInHanded {} Tryz.checked os 3 .any (Rows.pegChecksSpec.pre6 enc Tryz.prog Tryz.f3 Rows.pegChecksRow.domain false) (Rows.pegChecksSpec.post enc Tryz.prog Tryz.f3 false true false false) := by
  refine returnsInHanded_of_change (C := Tryz.checked) ownNone started (by kernel_rfl) Tryz.func3
    (ChangeSpec.witness6 (enc := enc) (C := Tryz.checked) false ⟨#[], #[.int .i64 0, .slice none 0 0, .int .i64 0], []⟩ 8 (by kernel_rfl) (by kernel_rfl) (by kernel_rfl) (by kernel_rfl)) ?_
  intro W base args ds gs before hval hW _ _
  have hW2 := hW
  obtain ⟨p, q, hA, hV, rfl, _, _⟩ := hW2
  have hA : DataW.TrodAll enc Tryz.prog W 0 (fun _ => true) true Tryz.f3.params.toList args.toList ds p := hA
  have hAk := hA
  have hval : ∀ (j : Nat) t v, Tryz.f3.params[j]? = some t → args[j]? = some v → Value.okWide Tryz.prog W .any base t v := hval
  rw [Tryz.params3] at hA hval
  obtain ⟨v0, vs0, d0, ds0, p0, q0, hargs, rfl, rfl, h0, r0⟩ := trodAll_cons hA
  obtain ⟨v1, vs1, d1, ds1, p1, q1, rfl, rfl, rfl, h1, r1⟩ := trodAll_cons r0
  obtain ⟨v2, vs2, d2, ds2, p2, q2, rfl, rfl, rfl, h2, r2⟩ := trodAll_cons r1
  obtain ⟨rfl, rfl, rfl⟩ := trodAll_nil r2
  obtain rfl : args = #[v0, v1, v2] := by cases args; simp_all
  obtain ⟨rfl, rfl⟩ := trodVars_none hV
  obtain ⟨a0, rfl, rfl, rfl, w0⟩ := open_int Tryz.underlying3 (hval 0 3 v0 rfl rfl) h0
  obtain ⟨A1, z1, c1, rfl, k1, m1, hr1⟩ := open_tris (hval 1 22 v1 rfl rfl) h1
  obtain ⟨a2, rfl, rfl, rfl, w2⟩ := open_int Tryz.underlying3 (hval 2 3 v2 rfl rfl) h2
  clear hA hval
  simp only [List.append_nil, List.nil_append] at hW hAk
  refine (pchecks_any a0 A1 z1 c1 a2 W hr1 k1 m1).mono fun e W' ⟨he, hb⟩ => ?_
  subst he
  exact ⟨_, rfl, post_bool hW hb (by rw [Tryz.params3]; decide) hAk (fun _ => rfl) rfl rfl (by kernel_rfl)⟩

theorem pchecks_holds : Rows.PegChecksSaid :=
  OpenClaim.holds_of_wide 3 Tryz.f3 rfl rfl rfl rfl rfl rfl rfl ⟨rfl, rfl, rfl, rfl, rfl⟩ rfl rfl rfl rfl rfl (by kernel_rfl) Tryz.func3 (by kernel_rfl)
    (of_decide_eq_true (by kernel_rfl)) (by unfold Func.isWrapper; first | (rw [if_pos (by decide +kernel)]; kernel_rfl) | (rw [if_neg (by decide +kernel)]; exact ⟨rfl, rfl⟩))
    (fun os started H enc _ => pchecks_row os started H enc)

#print axioms pchecks_holds
end Go.Proofs.YthbhengcinkepaaGreat
