/- For every integer n: the function LightPaths answers true: the quiet bases of paths and rings of lamps have as many sets as the document says, with own and without. No conditions. -/
import Derived.Test.YtpdgjjpfahobaaaAwake4
import Derived.Test.YtpdgjjpfahobaaaTame2
import Derived.Test.YtpdgjjpfahobaaaOpen
namespace Go.Proofs.Ytpdgjjpfahobaaa
open Go.ChangeShapes Go.WideShapes Go.ChangeAt Go.RowKit Lamp

/-- The first k edges of a path. -/
def pathK : Nat → List (Int × Int)
  | 0 => []
  | k + 1 => pathK k ++ [((k : Int), (k : Int) + 1)]
/-- A ring's first edges. -/
def ringK (n : Nat) : Nat → List (Int × Int)
  | 0 => [(0, 1), (0, (n : Int) - 1)]
  | k + 1 => ringK n k ++ [((k : Int) + 1, (k : Int) + 1 + 1)]
theorem pathK_len (k : Nat) : (pathK k).length = k := by
  induction k with
  | zero => rfl
  | succ k ih => rw [pathK, List.length_append, ih]; rfl
theorem ringK_len (n k : Nat) : (ringK n k).length = k + 2 := by
  induction k with
  | zero => rfl
  | succ k ih => rw [ringK, List.length_append, ih]; rfl
set_option maxRecDepth 100000 in
theorem path_vals : ∀ n, n < 16 → (quietL (grL (n + 1) (pathK n) true)).length = (if (n + 1) % 3 = 2 then 1 else 0) ∧ (quietL (grL (n + 1) (pathK n) false)).length = (n + 1) % 2 ∧ goodK ((n + 1 : Nat) : Int) (pathK n) (pathK n).length = true := by decide +kernel
set_option maxRecDepth 100000 in
theorem ring_vals : ∀ n, n < 14 → (quietL (grL (n + 3) (ringK (n + 3) (n + 1)) true)).length = (if (n + 3) % 3 = 0 then 2 else 0) ∧ (quietL (grL (n + 3) (ringK (n + 3) (n + 1)) false)).length = 2 - (n + 3) % 2 ∧ goodK ((n + 3 : Nat) : Int) (ringK (n + 3) (n + 1)) (ringK (n + 3) (n + 1)).length = true := by decide +kernel

/-- A block of pairs is a row of one's own. -/
theorem OwnE.of_box {w : World} {g b : Nat} {l : List (Int × Int)} (h : Box w g 41 (edgeV l).toArray) (hb : b ≤ g) (hl : l.length ≤ 1000000) : OwnE w b (.slice (some ⟨g, 0, none⟩) l.length l.length) l :=
  ⟨by rw [edgeV_len], .inr ⟨g, l.length, (edgeV l).toArray, rfl, hb, h, Nat.le_refl _, by unfold maxLen; omega, by simp [edgeV_len], by simp [edgeV_len, List.take_of_length_le]⟩⟩

set_option maxRecDepth 100000 in
set_option maxHeartbeats 8000000 in
theorem lpaths_any (a0 : Int) (w : World) :
    Calls Try.prog 14 #[.int .i64 a0] w fun e w' => e = .returned (.bool true) ∧ Below w.heap.size w w' := by
  have ht := remN_tmod a0 (m := 16) (by decide)
  have hlt := remN_lt a0 (m := 16) (by decide)
  obtain ⟨r, hr⟩ : ∃ r, remN a0 16 = r := ⟨_, rfl⟩
  rw [hr] at ht hlt
  obtain ⟨hv1, hv2, hv3⟩ := path_vals r hlt
  have HV1 := Lib.hid hv1
  have HV2 := Lib.hid hv2
  have HV3 := Lib.hid hv3
  clear hr hv1 hv2 hv3
  obtain ⟨m, hm⟩ : ∃ m, m = r + 1 := ⟨_, rfl⟩
  have hri : (1 : Int) + (r : Int) = (m : Int) := by omega
  rw [← hm] at HV1 HV2 HV3
  have hm1 : 1 ≤ m := by omega
  have hm16 : m ≤ 16 := by omega
  have ht : (IntKind.u64.wrap a0).tmod 16 = ((r : Nat) : Int) := ht
  obtain ⟨r2, hr2⟩ : ∃ r2, m % 2 = r2 := ⟨_, rfl⟩
  obtain ⟨r3, hr3⟩ : ∃ r3, m % 3 = r3 := ⟨_, rfl⟩
  have e2 : (m : Int) % 2 = (r2 : Int) := by omega
  have e3 : (m : Int) % 3 = (r3 : Int) := by omega
  rw [hr2] at HV2
  rw [hr3] at HV1
  have HR2 := Lib.hid hr2
  have HR3 := Lib.hid hr3
  have hr2l : r2 < 2 := by omega
  have hr3l : r3 < 3 := by omega
  clear hr2 hr3
  have hmr : r = m - 1 := by omega
  subst hmr
  clear hm hlt
  go_enter Try.func14, Try.ntmps14
  go_wp2_with fail
  clear ht hri
  go_loopw [3, 4] (fun sv i wr => ∃ (k : Nat) (v : Value), v = sv ∧ i = .int .i64 k ∧ k + 1 ≤ m ∧ Hid (OwnE wr w.heap.size v (pathK k)) ∧ Hid (Below w.heap.size w wr)) (fun _ i _ => m - (intOf i).toNat)
  case atStart => exact ⟨0, _, rfl, rfl, by omega, Lib.hid (OwnE.nil_ _ _), Lib.hid (Below.refl _ _)⟩
  case round =>
    obtain ⟨k, v, rfl, rfl, hk, HO1, HB1⟩ := hrel
    have HO := HO1
    have HB := HB1
    clear HO1 HB1
    by_cases hlt : k + 1 < m
    · have hlt' : (k : Int) + 1 < (m : Int) := by omega
      have HLEN := Lib.hid (pathK_len k)
      have hbs := HB.out.size
      go_wp2_with (at_builtin; refine wpList_addE _ rfl _ _ rfl (World.ownsRow.alloc HO.out _) rfl wr.heap.size _ (k : Int) ((k : Int) + 1) rfl (Box.new _ _ _) ?_ ?_ ?_; (have := HLEN.out; omega); (simp; omega); intro v8 w8 hown8 hg8)
      have hblk := HO.out.blk
      have HB8 := Lib.hid (show Below w.heap.size w w8 from (HB.out.alloc HB.out.size _).grown hg8 (by simp; omega) (fun i hi => hblk i hi))
      have HP := Lib.hid (show OwnE w8 w.heap.size v8 (pathK (k + 1)) from hown8)
      clear hown8 hg8 hblk
      go_roundw
      case rel => exact ⟨k + 1, v8, rfl, by go_num, by omega, HP, HB8⟩
      case measure => simp [intOf]; omega
    · rcases (show r3 = 0 ∨ r3 = 1 ∨ r3 = 2 by omega) with h | h | h
      · obtain rfl : r3 = 0 := by omega
        have hkm : k = m - 1 := by omega
        have hge : ¬ (k : Int) + 1 < (m : Int) := by omega
        obtain ⟨A1, c1, rfl, hr1⟩ := HO.out.reads
        have HG := Lib.hid (show Gr wr A1 m (pathK k) from ⟨hr1, by rw [pathK_len]; omega, by
          have h := HV3.out
          rw [← hkm] at h
          exact h, hm1, hm16⟩)
        have h1 := HV1.out
        have h2 := HV2.out
        rw [← hkm] at h1 h2
        have h1 : (quietL (grL m (pathK k) true)).length = 0 := by rw [h1]; decide
        have HW1 := Lib.hid h1
        have HW2 := Lib.hid h2
        clear hr1 HO h1 h2 HV1 HV2 HV3 hkm
        obtain ⟨wo, rfl⟩ : ∃ wo : World, wo = wr := ⟨_, rfl⟩
        go_wp2_with fail
        refine (Quiet_ok A1 m (pathK k) c1 true wo HG.out).mono ?_
        rintro e w2 ⟨v2, rfl, ho2, hb2⟩
        obtain ⟨A2, c2, hv2⟩ := ho2.form
        rw [natV_len, HW1.out] at hv2
        have HB2 := Lib.hid (HB.out.trans (hb2.mono HB.out.size))
        have HG2 := Lib.hid (HG.out.up hb2)
        clear hb2 ho2
        subst hv2
        go_wp2_with fail
        refine (Quiet_ok A1 m (pathK k) c1 false w2 HG2.out).mono ?_
        rintro e w3 ⟨v3, rfl, ho3, hb3⟩
        obtain ⟨A3, c3, hv3⟩ := ho3.form
        rw [natV_len, HW2.out] at hv3
        have HB3 := Lib.hid (HB2.out.trans (hb3.mono HB2.out.size))
        clear hb3 ho3 HG HG2 HB HB2 HW1 HW2 hge hlt
        subst hv3
        by_cases h3 : m < 3
        · have h3' : (m : Int) < 3 := by omega
          go_wp2_with fail
          refine (awake4_any w3).mono ?_
          rintro e w4 ⟨rfl, hb4⟩
          go_wp2_with fail
          go_ret
          exact ⟨rfl, HB3.out.trans (hb4.mono HB3.out.size)⟩
        · have h3' : ¬ (m : Int) < 3 := by omega
          obtain ⟨hv1, hv2, hv3⟩ := ring_vals (m - 3) (by omega)
          have hm3 : m - 3 + 3 = m := by omega
          rw [hm3, HR3.out] at hv1
          rw [hm3, HR2.out] at hv2
          rw [hm3] at hv3
          have HV1 := Lib.hid (show (quietL (grL m (ringK m (m - 3 + 1)) true)).length = 2 by rw [hv1]; decide)
          have HV2 := Lib.hid hv2
          have HV3 := Lib.hid hv3
          obtain ⟨W4, hW4⟩ : ∃ W4, w3.alloc (Obj.cells #[Value.int .i64 0, Value.int .i64 1, Value.int .i64 0, Value.int .i64 ((m : Int) - 1)] 41) = W4 := ⟨_, rfl⟩
          have HO4 := Lib.hid (show OwnE W4 w.heap.size (.slice (some ⟨w3.heap.size, 0, none⟩) 2 2) (ringK m 0) by
            rw [← hW4]
            exact OwnE.of_box (l := ringK m 0) (Box.new w3 41 _) HB3.out.size (by rw [ringK_len]; decide))
          have HB4 := Lib.hid (show Below w.heap.size w W4 by rw [← hW4]; exact HB3.out.alloc HB3.out.size _)
          clear hv1 hv2 hv3 HB3
          go_wp2_with fail
          try rw [hW4]
          have HE2 := Lib.hid e2
          have HE3 := Lib.hid e3
          clear hW4 e2 e3
          go_loopw [11, 12] (fun sv i wr => ∃ (k : Nat) (v : Value), v = sv ∧ i = .int .i64 ((k : Int) + 1) ∧ k + 2 ≤ m ∧ Hid (OwnE wr w.heap.size v (ringK m k)) ∧ Hid (Below w.heap.size w wr)) (fun _ i _ => m - (intOf i).toNat)
          case atStart => exact ⟨0, _, rfl, rfl, by omega, HO4, HB4⟩
          case round =>
            obtain ⟨j, v, rfl, rfl, hj, HO1, HB1⟩ := hrel
            have HO := HO1
            have HB := HB1
            clear HO1 HB1 HO4 HB4
            by_cases hlt : j + 2 < m
            · have hlt' : (j : Int) + 1 + 1 < (m : Int) := by omega
              have HLEN := Lib.hid (ringK_len m j)
              have hbs := HB.out.size
              go_wp2_with (at_builtin; refine wpList_addE _ rfl _ _ rfl (World.ownsRow.alloc HO.out _) rfl wr.heap.size _ ((j : Int) + 1) ((j : Int) + 1 + 1) rfl (Box.new _ _ _) ?_ ?_ ?_; (have := HLEN.out; omega); (simp; omega); intro v8 w8 hown8 hg8)
              have hblk := HO.out.blk
              have HB8 := Lib.hid (show Below w.heap.size w w8 from (HB.out.alloc HB.out.size _).grown hg8 (by simp; omega) (fun i hi => hblk i hi))
              have HP := Lib.hid (show OwnE w8 w.heap.size v8 (ringK m (j + 1)) from hown8)
              clear hown8 hg8 hblk
              go_roundw
              case rel => exact ⟨j + 1, v8, rfl, by go_num, by omega, HP, HB8⟩
              case measure => simp [intOf]; omega
            · have hjm : m - 3 + 1 = j := by omega
              have hge : ¬ (j : Int) + 1 + 1 < (m : Int) := by omega
              obtain ⟨A4, c4, rfl, hr4⟩ := HO.out.reads
              have h1 := HV1.out
              have h2 := HV2.out
              have h3 := HV3.out
              rw [hjm] at h1 h2 h3
              have HG := Lib.hid (show Gr wr A4 m (ringK m j) from ⟨hr4, by rw [ringK_len]; omega, h3, hm1, hm16⟩)
              have HW1 := Lib.hid h1
              have HW2 := Lib.hid h2
              clear hr4 HO h1 h2 h3 HV1 HV2 HV3 hjm
              have e2 := HE2.out
              have e3 := HE3.out
              obtain ⟨wo4, rfl⟩ : ∃ wo4 : World, wo4 = wr := ⟨_, rfl⟩
              go_wp2_with fail
              refine (Quiet_ok A4 m (ringK m j) c4 true wo4 HG.out).mono ?_
              rintro e w5 ⟨v5, rfl, ho5, hb5⟩
              obtain ⟨A5, c5, hv5⟩ := ho5.form
              rw [natV_len, HW1.out] at hv5
              have HB5 := Lib.hid (HB.out.trans (hb5.mono HB.out.size))
              have HG5 := Lib.hid (HG.out.up hb5)
              clear hb5 ho5
              subst hv5
              go_wp2_with fail
              refine (Quiet_ok A4 m (ringK m j) c4 false w5 HG5.out).mono ?_
              rintro e w6 ⟨v6, rfl, ho6, hb6⟩
              obtain ⟨A6, c6, hv6⟩ := ho6.form
              rw [natV_len, HW2.out] at hv6
              have HB6 := Lib.hid (HB5.out.trans (hb6.mono HB5.out.size))
              have e4 : ((2 - r2 : Nat) : Int) = 2 - (r2 : Int) := by omega
              have e5 : (((2 - r2 : Nat) : Int) == 2 - (r2 : Int)) = true := by rw [e4]; simp
              clear hb6 ho6
              subst hv6
              go_wp2_with fail
              refine (awake4_any w6).mono ?_
              rintro e w7 ⟨rfl, hb7⟩
              go_wp2_with fail
              go_ret
              exact ⟨rfl, HB6.out.trans (hb7.mono HB6.out.size)⟩
      · obtain rfl : r3 = 1 := by omega
        have hkm : k = m - 1 := by omega
        have hge : ¬ (k : Int) + 1 < (m : Int) := by omega
        obtain ⟨A1, c1, rfl, hr1⟩ := HO.out.reads
        have HG := Lib.hid (show Gr wr A1 m (pathK k) from ⟨hr1, by rw [pathK_len]; omega, by
          have h := HV3.out
          rw [← hkm] at h
          exact h, hm1, hm16⟩)
        have h1 := HV1.out
        have h2 := HV2.out
        rw [← hkm] at h1 h2
        have h1 : (quietL (grL m (pathK k) true)).length = 0 := by rw [h1]; decide
        have HW1 := Lib.hid h1
        have HW2 := Lib.hid h2
        clear hr1 HO h1 h2 HV1 HV2 HV3 hkm
        obtain ⟨wo, rfl⟩ : ∃ wo : World, wo = wr := ⟨_, rfl⟩
        go_wp2_with fail
        refine (Quiet_ok A1 m (pathK k) c1 true wo HG.out).mono ?_
        rintro e w2 ⟨v2, rfl, ho2, hb2⟩
        obtain ⟨A2, c2, hv2⟩ := ho2.form
        rw [natV_len, HW1.out] at hv2
        have HB2 := Lib.hid (HB.out.trans (hb2.mono HB.out.size))
        have HG2 := Lib.hid (HG.out.up hb2)
        clear hb2 ho2
        subst hv2
        go_wp2_with fail
        refine (Quiet_ok A1 m (pathK k) c1 false w2 HG2.out).mono ?_
        rintro e w3 ⟨v3, rfl, ho3, hb3⟩
        obtain ⟨A3, c3, hv3⟩ := ho3.form
        rw [natV_len, HW2.out] at hv3
        have HB3 := Lib.hid (HB2.out.trans (hb3.mono HB2.out.size))
        clear hb3 ho3 HG HG2 HB HB2 HW1 HW2 hge hlt
        subst hv3
        by_cases h3 : m < 3
        · have h3' : (m : Int) < 3 := by omega
          go_wp2_with fail
          refine (awake4_any w3).mono ?_
          rintro e w4 ⟨rfl, hb4⟩
          go_wp2_with fail
          go_ret
          exact ⟨rfl, HB3.out.trans (hb4.mono HB3.out.size)⟩
        · have h3' : ¬ (m : Int) < 3 := by omega
          obtain ⟨hv1, hv2, hv3⟩ := ring_vals (m - 3) (by omega)
          have hm3 : m - 3 + 3 = m := by omega
          rw [hm3, HR3.out] at hv1
          rw [hm3, HR2.out] at hv2
          rw [hm3] at hv3
          have HV1 := Lib.hid (show (quietL (grL m (ringK m (m - 3 + 1)) true)).length = 0 by rw [hv1]; decide)
          have HV2 := Lib.hid hv2
          have HV3 := Lib.hid hv3
          obtain ⟨W4, hW4⟩ : ∃ W4, w3.alloc (Obj.cells #[Value.int .i64 0, Value.int .i64 1, Value.int .i64 0, Value.int .i64 ((m : Int) - 1)] 41) = W4 := ⟨_, rfl⟩
          have HO4 := Lib.hid (show OwnE W4 w.heap.size (.slice (some ⟨w3.heap.size, 0, none⟩) 2 2) (ringK m 0) by
            rw [← hW4]
            exact OwnE.of_box (l := ringK m 0) (Box.new w3 41 _) HB3.out.size (by rw [ringK_len]; decide))
          have HB4 := Lib.hid (show Below w.heap.size w W4 by rw [← hW4]; exact HB3.out.alloc HB3.out.size _)
          clear hv1 hv2 hv3 HB3
          go_wp2_with fail
          try rw [hW4]
          have HE2 := Lib.hid e2
          have HE3 := Lib.hid e3
          clear hW4 e2 e3
          go_loopw [11, 12] (fun sv i wr => ∃ (k : Nat) (v : Value), v = sv ∧ i = .int .i64 ((k : Int) + 1) ∧ k + 2 ≤ m ∧ Hid (OwnE wr w.heap.size v (ringK m k)) ∧ Hid (Below w.heap.size w wr)) (fun _ i _ => m - (intOf i).toNat)
          case atStart => exact ⟨0, _, rfl, rfl, by omega, HO4, HB4⟩
          case round =>
            obtain ⟨j, v, rfl, rfl, hj, HO1, HB1⟩ := hrel
            have HO := HO1
            have HB := HB1
            clear HO1 HB1 HO4 HB4
            by_cases hlt : j + 2 < m
            · have hlt' : (j : Int) + 1 + 1 < (m : Int) := by omega
              have HLEN := Lib.hid (ringK_len m j)
              have hbs := HB.out.size
              go_wp2_with (at_builtin; refine wpList_addE _ rfl _ _ rfl (World.ownsRow.alloc HO.out _) rfl wr.heap.size _ ((j : Int) + 1) ((j : Int) + 1 + 1) rfl (Box.new _ _ _) ?_ ?_ ?_; (have := HLEN.out; omega); (simp; omega); intro v8 w8 hown8 hg8)
              have hblk := HO.out.blk
              have HB8 := Lib.hid (show Below w.heap.size w w8 from (HB.out.alloc HB.out.size _).grown hg8 (by simp; omega) (fun i hi => hblk i hi))
              have HP := Lib.hid (show OwnE w8 w.heap.size v8 (ringK m (j + 1)) from hown8)
              clear hown8 hg8 hblk
              go_roundw
              case rel => exact ⟨j + 1, v8, rfl, by go_num, by omega, HP, HB8⟩
              case measure => simp [intOf]; omega
            · have hjm : m - 3 + 1 = j := by omega
              have hge : ¬ (j : Int) + 1 + 1 < (m : Int) := by omega
              obtain ⟨A4, c4, rfl, hr4⟩ := HO.out.reads
              have h1 := HV1.out
              have h2 := HV2.out
              have h3 := HV3.out
              rw [hjm] at h1 h2 h3
              have HG := Lib.hid (show Gr wr A4 m (ringK m j) from ⟨hr4, by rw [ringK_len]; omega, h3, hm1, hm16⟩)
              have HW1 := Lib.hid h1
              have HW2 := Lib.hid h2
              clear hr4 HO h1 h2 h3 HV1 HV2 HV3 hjm
              have e2 := HE2.out
              have e3 := HE3.out
              obtain ⟨wo4, rfl⟩ : ∃ wo4 : World, wo4 = wr := ⟨_, rfl⟩
              go_wp2_with fail
              refine (Quiet_ok A4 m (ringK m j) c4 true wo4 HG.out).mono ?_
              rintro e w5 ⟨v5, rfl, ho5, hb5⟩
              obtain ⟨A5, c5, hv5⟩ := ho5.form
              rw [natV_len, HW1.out] at hv5
              have HB5 := Lib.hid (HB.out.trans (hb5.mono HB.out.size))
              have HG5 := Lib.hid (HG.out.up hb5)
              clear hb5 ho5
              subst hv5
              go_wp2_with fail
              refine (Quiet_ok A4 m (ringK m j) c4 false w5 HG5.out).mono ?_
              rintro e w6 ⟨v6, rfl, ho6, hb6⟩
              obtain ⟨A6, c6, hv6⟩ := ho6.form
              rw [natV_len, HW2.out] at hv6
              have HB6 := Lib.hid (HB5.out.trans (hb6.mono HB5.out.size))
              have e4 : ((2 - r2 : Nat) : Int) = 2 - (r2 : Int) := by omega
              have e5 : (((2 - r2 : Nat) : Int) == 2 - (r2 : Int)) = true := by rw [e4]; simp
              clear hb6 ho6
              subst hv6
              go_wp2_with fail
              refine (awake4_any w6).mono ?_
              rintro e w7 ⟨rfl, hb7⟩
              go_wp2_with fail
              go_ret
              exact ⟨rfl, HB6.out.trans (hb7.mono HB6.out.size)⟩
      · obtain rfl : r3 = 2 := by omega
        have hkm : k = m - 1 := by omega
        have hge : ¬ (k : Int) + 1 < (m : Int) := by omega
        obtain ⟨A1, c1, rfl, hr1⟩ := HO.out.reads
        have HG := Lib.hid (show Gr wr A1 m (pathK k) from ⟨hr1, by rw [pathK_len]; omega, by
          have h := HV3.out
          rw [← hkm] at h
          exact h, hm1, hm16⟩)
        have h1 := HV1.out
        have h2 := HV2.out
        rw [← hkm] at h1 h2
        have h1 : (quietL (grL m (pathK k) true)).length = 1 := by rw [h1]; decide
        have HW1 := Lib.hid h1
        have HW2 := Lib.hid h2
        clear hr1 HO h1 h2 HV1 HV2 HV3 hkm
        obtain ⟨wo, rfl⟩ : ∃ wo : World, wo = wr := ⟨_, rfl⟩
        go_wp2_with fail
        refine (Quiet_ok A1 m (pathK k) c1 true wo HG.out).mono ?_
        rintro e w2 ⟨v2, rfl, ho2, hb2⟩
        obtain ⟨A2, c2, hv2⟩ := ho2.form
        rw [natV_len, HW1.out] at hv2
        have HB2 := Lib.hid (HB.out.trans (hb2.mono HB.out.size))
        have HG2 := Lib.hid (HG.out.up hb2)
        clear hb2 ho2
        subst hv2
        go_wp2_with fail
        refine (Quiet_ok A1 m (pathK k) c1 false w2 HG2.out).mono ?_
        rintro e w3 ⟨v3, rfl, ho3, hb3⟩
        obtain ⟨A3, c3, hv3⟩ := ho3.form
        rw [natV_len, HW2.out] at hv3
        have HB3 := Lib.hid (HB2.out.trans (hb3.mono HB2.out.size))
        clear hb3 ho3 HG HG2 HB HB2 HW1 HW2 hge hlt
        subst hv3
        by_cases h3 : m < 3
        · have h3' : (m : Int) < 3 := by omega
          go_wp2_with fail
          refine (awake4_any w3).mono ?_
          rintro e w4 ⟨rfl, hb4⟩
          go_wp2_with fail
          go_ret
          exact ⟨rfl, HB3.out.trans (hb4.mono HB3.out.size)⟩
        · have h3' : ¬ (m : Int) < 3 := by omega
          obtain ⟨hv1, hv2, hv3⟩ := ring_vals (m - 3) (by omega)
          have hm3 : m - 3 + 3 = m := by omega
          rw [hm3, HR3.out] at hv1
          rw [hm3, HR2.out] at hv2
          rw [hm3] at hv3
          have HV1 := Lib.hid (show (quietL (grL m (ringK m (m - 3 + 1)) true)).length = 0 by rw [hv1]; decide)
          have HV2 := Lib.hid hv2
          have HV3 := Lib.hid hv3
          obtain ⟨W4, hW4⟩ : ∃ W4, w3.alloc (Obj.cells #[Value.int .i64 0, Value.int .i64 1, Value.int .i64 0, Value.int .i64 ((m : Int) - 1)] 41) = W4 := ⟨_, rfl⟩
          have HO4 := Lib.hid (show OwnE W4 w.heap.size (.slice (some ⟨w3.heap.size, 0, none⟩) 2 2) (ringK m 0) by
            rw [← hW4]
            exact OwnE.of_box (l := ringK m 0) (Box.new w3 41 _) HB3.out.size (by rw [ringK_len]; decide))
          have HB4 := Lib.hid (show Below w.heap.size w W4 by rw [← hW4]; exact HB3.out.alloc HB3.out.size _)
          clear hv1 hv2 hv3 HB3
          go_wp2_with fail
          try rw [hW4]
          have HE2 := Lib.hid e2
          have HE3 := Lib.hid e3
          clear hW4 e2 e3
          go_loopw [11, 12] (fun sv i wr => ∃ (k : Nat) (v : Value), v = sv ∧ i = .int .i64 ((k : Int) + 1) ∧ k + 2 ≤ m ∧ Hid (OwnE wr w.heap.size v (ringK m k)) ∧ Hid (Below w.heap.size w wr)) (fun _ i _ => m - (intOf i).toNat)
          case atStart => exact ⟨0, _, rfl, rfl, by omega, HO4, HB4⟩
          case round =>
            obtain ⟨j, v, rfl, rfl, hj, HO1, HB1⟩ := hrel
            have HO := HO1
            have HB := HB1
            clear HO1 HB1 HO4 HB4
            by_cases hlt : j + 2 < m
            · have hlt' : (j : Int) + 1 + 1 < (m : Int) := by omega
              have HLEN := Lib.hid (ringK_len m j)
              have hbs := HB.out.size
              go_wp2_with (at_builtin; refine wpList_addE _ rfl _ _ rfl (World.ownsRow.alloc HO.out _) rfl wr.heap.size _ ((j : Int) + 1) ((j : Int) + 1 + 1) rfl (Box.new _ _ _) ?_ ?_ ?_; (have := HLEN.out; omega); (simp; omega); intro v8 w8 hown8 hg8)
              have hblk := HO.out.blk
              have HB8 := Lib.hid (show Below w.heap.size w w8 from (HB.out.alloc HB.out.size _).grown hg8 (by simp; omega) (fun i hi => hblk i hi))
              have HP := Lib.hid (show OwnE w8 w.heap.size v8 (ringK m (j + 1)) from hown8)
              clear hown8 hg8 hblk
              go_roundw
              case rel => exact ⟨j + 1, v8, rfl, by go_num, by omega, HP, HB8⟩
              case measure => simp [intOf]; omega
            · have hjm : m - 3 + 1 = j := by omega
              have hge : ¬ (j : Int) + 1 + 1 < (m : Int) := by omega
              obtain ⟨A4, c4, rfl, hr4⟩ := HO.out.reads
              have h1 := HV1.out
              have h2 := HV2.out
              have h3 := HV3.out
              rw [hjm] at h1 h2 h3
              have HG := Lib.hid (show Gr wr A4 m (ringK m j) from ⟨hr4, by rw [ringK_len]; omega, h3, hm1, hm16⟩)
              have HW1 := Lib.hid h1
              have HW2 := Lib.hid h2
              clear hr4 HO h1 h2 h3 HV1 HV2 HV3 hjm
              have e2 := HE2.out
              have e3 := HE3.out
              obtain ⟨wo4, rfl⟩ : ∃ wo4 : World, wo4 = wr := ⟨_, rfl⟩
              go_wp2_with fail
              refine (Quiet_ok A4 m (ringK m j) c4 true wo4 HG.out).mono ?_
              rintro e w5 ⟨v5, rfl, ho5, hb5⟩
              obtain ⟨A5, c5, hv5⟩ := ho5.form
              rw [natV_len, HW1.out] at hv5
              have HB5 := Lib.hid (HB.out.trans (hb5.mono HB.out.size))
              have HG5 := Lib.hid (HG.out.up hb5)
              clear hb5 ho5
              subst hv5
              go_wp2_with fail
              refine (Quiet_ok A4 m (ringK m j) c4 false w5 HG5.out).mono ?_
              rintro e w6 ⟨v6, rfl, ho6, hb6⟩
              obtain ⟨A6, c6, hv6⟩ := ho6.form
              rw [natV_len, HW2.out] at hv6
              have HB6 := Lib.hid (HB5.out.trans (hb6.mono HB5.out.size))
              have e4 : ((2 - r2 : Nat) : Int) = 2 - (r2 : Int) := by omega
              have e5 : (((2 - r2 : Nat) : Int) == 2 - (r2 : Int)) = true := by rw [e4]; simp
              clear hb6 ho6
              subst hv6
              go_wp2_with fail
              refine (awake4_any w6).mono ?_
              rintro e w7 ⟨rfl, hb7⟩
              go_wp2_with fail
              go_ret
              exact ⟨rfl, HB6.out.trans (hb7.mono HB6.out.size)⟩
set_option maxRecDepth 100000 in
theorem lpaths_row (os : Os) (started : os.Started) (H : Type) (enc : TypeId × Value → H) :
    ReturnsInHanded {} Try.checked os 14 .any (Rows.lightPathsSpec.pre6 enc Try.prog Try.f14 Rows.lightPathsRow.domain false) (Rows.lightPathsSpec.post enc Try.prog Try.f14 false true false false) := by
  refine returnsInHanded_of_change (C := Try.checked) ownNone started (by kernel_rfl) Try.func14
    (ChangeSpec.witness6 (enc := enc) (C := Try.checked) false ⟨#[], #[.int .i64 0], []⟩ 8 (by kernel_rfl) (by kernel_rfl) (by kernel_rfl) (by kernel_rfl)) ?_
  intro W base args ds gs before hval hW _ _
  have hW2 := hW
  obtain ⟨p, q, hA, hV, rfl, _, _⟩ := hW2
  have hA : DataW.TrodAll enc Try.prog W 0 (fun _ => true) true Try.f14.params.toList args.toList ds p := hA
  have hAk := hA
  have hval : ∀ (j : Nat) t v, Try.f14.params[j]? = some t → args[j]? = some v → Value.okWide Try.prog W .any base t v := hval
  rw [Try.params14] at hA hval
  obtain ⟨v0, vs0, d0, ds0, p0, q0, hargs, rfl, rfl, h0, r0⟩ := trodAll_cons hA
  obtain ⟨rfl, rfl, rfl⟩ := trodAll_nil r0
  obtain rfl : args = #[v0] := by cases args; simp_all
  obtain ⟨rfl, rfl⟩ := trodVars_none hV
  obtain ⟨a0, rfl, rfl, rfl, w0⟩ := open_int Try.underlying3 (hval 0 3 v0 rfl rfl) h0
  clear hA hval
  simp only [List.append_nil] at hW hAk
  refine (lpaths_any a0 W ).mono fun e W' ⟨he, hb⟩ => ?_
  subst he
  exact ⟨_, rfl, post_bool hW hb (by rw [Try.params14]; decide) hAk (fun _ => rfl) rfl rfl (by kernel_rfl)⟩

theorem lpaths_holds : Rows.LightPathsSaid :=
  OpenClaim.holds_of_wide 14 Try.f14 rfl rfl rfl rfl rfl rfl rfl ⟨rfl, rfl, rfl, rfl, rfl⟩ rfl rfl rfl rfl rfl (by kernel_rfl) Try.func14 (by kernel_rfl)
    (of_decide_eq_true (by kernel_rfl)) (by unfold Func.isWrapper; first | (rw [if_pos (by decide +kernel)]; kernel_rfl) | (rw [if_neg (by decide +kernel)]; exact ⟨rfl, rfl⟩))
    (fun os started H enc _ => lpaths_row os started H enc)

#print axioms lpaths_holds
end Go.Proofs.Ytpdgjjpfahobaaa
