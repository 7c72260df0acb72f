/- The function tame of the statements of package peg: a board made of any numbers. -/
import Derived.Test.YthbhengcinkepaaAppT
import Derived.Test.YthbhengcinkepaaRCheck2
import Derived.Deep.DeepCutAuto
namespace Go.Proofs.Ythbhengcinkepaa
open Go.RowKit Lamp

theorem three_set (a b c : Int) (k : Nat) (hk : k < 3) (x m : Int) (ha : 0 ≤ a ∧ a < m) (hb : 0 ≤ b ∧ b < m) (hc : 0 ≤ c ∧ c < m) (hx : 0 ≤ x ∧ x < m) : ∃ a' b' c' : Int, (0 ≤ a' ∧ a' < m) ∧ (0 ≤ b' ∧ b' < m) ∧ (0 ≤ c' ∧ c' < m) ∧ (#[Value.int .i64 a, .int .i64 b, .int .i64 c]).setIfInBounds k (.int .i64 x) = #[Value.int .i64 a', .int .i64 b', .int .i64 c'] := by
  match k, hk with
  | 0, _ => exact ⟨x, b, c, hx, hb, hc, rfl⟩
  | 1, _ => exact ⟨a, x, c, ha, hx, hc, rfl⟩
  | 2, _ => exact ⟨a, b, x, ha, hb, hx, rfl⟩
theorem three_get (a b c : Int) (k : Nat) (hk : k < 3) : ∃ y : Int, (#[Value.int .i64 a, .int .i64 b, .int .i64 c])[k]? = some (.int .i64 y) := by
  match k, hk with
  | 0, _ => exact ⟨a, rfl⟩
  | 1, _ => exact ⟨b, rfl⟩
  | 2, _ => exact ⟨c, rfl⟩
theorem RTri.num {w : World} {B b o : Nat} {l : List Tri} (h : RTri w B (some ⟨b, o, none⟩) l) {i k : Nat} (hi : i < l.length) (hk : k < 3) : ∃ y : Int, w.cell? ⟨b, o + i * 3 + k, none⟩ = some (.int .i64 y) := by
  obtain ⟨b2, o2, x, y, z, e, _, _, c0, c1, c2⟩ := h.at_ hi
  cases e
  match k, hk with
  | 0, _ => exact ⟨x, c0⟩
  | 1, _ => exact ⟨y, c1⟩
  | 2, _ => exact ⟨z, c2⟩

theorem checkT_nil {m : Nat} (h1 : 1 ≤ m) (h2 : m ≤ 16) : checkT (m : Int) [] = 0 := by
  unfold checkT
  rw [if_neg (by omega), if_neg (by simp)]
  rfl

set_option maxRecDepth 100000 in
set_option maxHeartbeats 16000000 in
theorem tameT_any (A : Option Addr) (n : Int) (l : List Tri) (c M K : Nat) (w : World) (hr : RTri w w.heap.size A l) (hl : l.length ≤ 9223372036854775807) (hM1 : 1 ≤ M) (hM : M ≤ 16) (hK : K ≤ 40) :
    Calls Try.prog 18 #[.int .i64 n, .slice A l.length c, .int .i64 M, .int .i64 K] w fun e w' => ∃ v, e = .returned (.tuple #[.int .i64 (1 + remN n M : Nat), v]) ∧ ∃ L, checkT (1 + remN n M : Nat) L = 0 ∧ L.length ≤ K ∧ OwnT 30 w' w.heap.size v L ∧ Below w.heap.size w w' := by
  have ht := remN_tmod n hM1
  have hlt := remN_lt n hM1
  have hMi : ((M : Int) = 0) = False := by simp; omega
  have hMw : IntKind.u64.wrap (M : Int) = (M : Int) := by rw [IntKind.wrap_u64]; omega
  obtain ⟨r, hr2⟩ : ∃ r, remN n M = r := ⟨_, rfl⟩
  rw [hr2] at ht hlt ⊢
  go_enter Try.func18, Try.ntmps18
  go_upto_region 2 with fail
  go_upto_region 3 with fail
  obtain ⟨m, hm⟩ : ∃ m, m = 1 + r := ⟨_, rfl⟩
  rw [show (1 : Int) + (r : Int) = (m : Int) by omega]
  have HMI := Lib.hid (show (1 : Int) + (r : Int) = (m : Int) by omega)
  have hm1 : 1 ≤ m := by omega
  have hm16 : m ≤ 16 := by omega
  have HR := Lib.hid hr
  clear ht hlt hMi hMw hr hm hr2
  have hmi : ((m : Int) = 0) = False := by simp; omega
  have hmw : IntKind.u64.wrap (m : Int) = (m : Int) := by rw [IntKind.wrap_u64]; omega
  go_wp2_with fail
  go_loopg [10, 11] l.length (fun g sv i ws => ∃ (k : Nat) (v : Value) (L : List Tri), k + g = l.length ∧ v = sv ∧ i = .int .i64 k ∧ L.length ≤ K ∧ Hid (checkT (m : Int) L = 0) ∧ Hid (OwnT 30 ws w.heap.size v L) ∧ Hid (Below w.heap.size w ws))
  case atStart => exact ⟨0, _, [], by omega, rfl, rfl, by simp, Lib.hid (checkT_nil hm1 hm16), Lib.hid (OwnT.nil_ _ _ _), Lib.hid (Below.refl _ _)⟩
  case round =>
    obtain ⟨k, v, L, hk, rfl, rfl, hLK, HC1, HO1, HB1⟩ := hrel
    have HC := HC1
    have HO := HO1
    have HB := HB1
    clear HC1 HO1 HB1
    cases gk with
    | zero =>
      obtain rfl : k = l.length := by omega
      obtain ⟨A1, c1, rfl, _⟩ := HO.out.reads
      have hge : ¬ (l.length : Int) < (l.length : Int) := by omega
      have hgd : decide ((l.length : Int) < (l.length : Int)) = false := decide_eq_false hge
      go_wp2_with fail
      go_ret2
      exact ⟨Value.slice A1 L.length c1, by rw [HMI.out]; rfl, L, by rw [HMI.out]; exact HC.out, hLK, HO.out, HB.out⟩
    | succ g =>
      have hkl : (k : Int) < (l.length : Int) := by omega
      obtain ⟨A1, c1, rfl, hc1, hr1, hblk⟩ := HO.out.caps
      have HR1 := Lib.hid hr1
      have HBK := Lib.hid hblk
      clear hr1 hblk
      by_cases hLK2 : L.length < K
      case neg =>
        have hge : ¬ (L.length : Int) < (K : Int) := by omega
        go_wp2_with fail
        go_ret2
        exact ⟨Value.slice A1 L.length c1, by rw [HMI.out]; rfl, L, by rw [HMI.out]; exact HC.out, hLK, HO.out, HB.out⟩
      have hLK' : (L.length : Int) < (K : Int) := by omega
      obtain ⟨b, o, x0, y0, z0, hA, hb, _, _, _, _⟩ := (HR.out.up HB.out).at_ (k := k) (by omega)
      subst hA
      go_wp2_with fail
      obtain ⟨wo, rfl⟩ : ∃ wo : World, wo = wr := ⟨_, rfl⟩
      have hbx := Box.new wo 30 #[Value.int .i64 0, Value.int .i64 0, Value.int .i64 0]
      have hBX := (Below.refl wo.heap.size wo).alloc (Nat.le_refl _) (Obj.cells #[Value.int .i64 0, Value.int .i64 0, Value.int .i64 0] 30)
      obtain ⟨W1, hW1⟩ : ∃ W1, wo.alloc (Obj.cells #[Value.int .i64 0, Value.int .i64 0, Value.int .i64 0] 30) = W1 := ⟨_, rfl⟩
      rw [hW1] at hbx hBX ⊢
      have HBX0 := Lib.hid hbx
      have HBB0 := Lib.hid hBX
      have HRK := Lib.hid (HR.out.up HB.out)
      clear hW1 hbx hBX
      go_loopg [13] 3 (fun g i ws => ∃ (j : Nat) (a b c : Int), j + g = 3 ∧ i = .int .i64 j ∧ Hid ((0 ≤ a ∧ a < m) ∧ (0 ≤ b ∧ b < m) ∧ (0 ≤ c ∧ c < m)) ∧ Hid (Box ws wo.heap.size 30 #[Value.int .i64 a, .int .i64 b, .int .i64 c]) ∧ Hid (Below wo.heap.size wo ws))
      case atStart => exact ⟨0, 0, 0, 0, by omega, rfl, Lib.hid (by omega), HBX0, HBB0⟩
      case round =>
        obtain ⟨j, a0, b0, c0, hj, rfl, HRG1, HX1, HBB1⟩ := hrel
        have HRG := HRG1
        have HX := HX1
        have HBB := HBB1
        clear HRG1 HX1 HBB1 HBX0 HBB0
        cases gk with
        | succ g1 =>
          have hj3 : j < 3 := by omega
          have hj3' : (j : Int) < 3 := by omega
          obtain ⟨u, hu⟩ := (HRK.out.below HBB.out).num (i := k) (k := j) (by omega) hj3
          obtain ⟨y, hy⟩ := three_get a0 b0 c0 j hj3
          have hcx := HX.out.cell j
          rw [hy] at hcx
          have hfx := HX.out.free j
          have e1 := rem_i64 u hm1 (by omega : m ≤ 65536)
          have e2 := remN_tmod u hm1
          have hlu := remN_lt u hm1
          obtain ⟨q, hq⟩ : ∃ q, remN u m = q := ⟨_, rfl⟩
          rw [hq] at e1 e2 hlu
          have HQL := Lib.hid hlu
          have e3 : wrap64 (q : Int) = (q : Int) := w64 (by omega)
          clear hq hy hlu
          go_wp2_with fail
          obtain ⟨a1, b1, d1, hra, hrb, hrc, hset⟩ := three_set a0 b0 c0 j hj3 (q : Int) (m : Int) HRG.out.1 HRG.out.2.1 HRG.out.2.2 ⟨Int.natCast_nonneg q, Int.ofNat_lt.2 HQL.out⟩
          have hXN := HX.out.put j (.int .i64 (q : Int))
          rw [hset] at hXN
          have HXN := Lib.hid hXN
          have HBN := Lib.hid (HBB.out.setCell (p := ⟨wo.heap.size, j, none⟩) (Nat.le_refl _) (.int .i64 (q : Int)))
          have HRN := Lib.hid (And.intro hra (And.intro hrb hrc))
          clear hset hXN hra hrb hrc hcx hfx hu
          go_roundg g1
          case measure => omega
          case rel => exact ⟨j + 1, a1, b1, d1, by omega, by go_num, HRN, HXN, HBN⟩
        | zero =>
          obtain rfl : j = 3 := by omega
          have x0 := HX.out.cell 0
          have x1 := HX.out.cell 1
          have x2 := HX.out.cell 2
          simp only [List.getElem?_toArray, List.getElem?_cons_zero, List.getElem?_cons_succ] at x0 x1 x2
          have f0 := HX.out.free 0
          have f1 := HX.out.free 1
          have f2 := HX.out.free 2
          go_upto_if 56 with fail
          go_cut [12] (fun v12 wx => v12 = .pointer (some ⟨wo.heap.size, 0, none⟩) ∧ ∃ a b c : Int, Hid ((0 ≤ a ∧ a < m) ∧ (0 ≤ b ∧ b < m) ∧ (0 ≤ c ∧ c < m)) ∧ Hid (Box wx wo.heap.size 30 #[Value.int .i64 a, .int .i64 b, .int .i64 c]) ∧ Hid (Below wo.heap.size wo wx))
          case first =>
            by_cases hac : c0 < a0
            · go_wp2_with fail
              go_meet
              exact ⟨rfl, c0, b0, a0, Lib.hid ⟨HRG.out.2.2, HRG.out.2.1, HRG.out.1⟩, Lib.hid (((HX.out.put 0 (.int .i64 c0)).put 1 (.int .i64 b0)).put 2 (.int .i64 a0)), Lib.hid (((HBB.out.setCell (p := ⟨wo.heap.size, 0, none⟩) (Nat.le_refl _) _).setCell (p := ⟨wo.heap.size, 1, none⟩) (Nat.le_refl _) _).setCell (p := ⟨wo.heap.size, 2, none⟩) (Nat.le_refl _) _)⟩
            · go_wp2_with fail
              go_meet
              exact ⟨rfl, a0, b0, c0, HRG, HX, HBB⟩
          case rest =>
            obtain ⟨rfl, a2, b2, c2, HRG2, HX2, HBB2⟩ := hcut
            obtain ⟨wd, rfl⟩ : ∃ wd : World, wd = wc := ⟨_, rfl⟩
            have HRD := Lib.hid ((HR1.out.below HBB2.out).more HBB2.out.size)
            have x0 := HX2.out.cell 0
            have x1 := HX2.out.cell 1
            have x2 := HX2.out.cell 2
            simp only [List.getElem?_toArray, List.getElem?_cons_zero, List.getElem?_cons_succ] at x0 x1 x2
            go_wp2_with fail
            go_loopg [14] L.length (fun g i wx => ∃ j : Nat, j + g = L.length ∧ i = .int .i64 j ∧ Hid (∃ n, wd.drewN n = wx))
            case atStart => exact ⟨0, by omega, rfl, Lib.hid ⟨0, rfl⟩⟩
            case round =>
              obtain ⟨j, hj, rfl, HW1⟩ := hrel
              obtain ⟨n0, hn0⟩ := HW1.out
              clear HW1
              subst hn0
              go_upto_region 14 with fail
              go_cut [117] (fun v117 wx => ∃ tb : Bool, v117 = .bool tb ∧ Hid (tb = true → j < L.length) ∧ Hid (∃ n, wd.drewN n = wx))
              case first =>
                by_cases hjl : j < L.length
                · have HJL := Lib.hid hjl
                  obtain ⟨b', o', y0, y1, y2, hA', hb', hy, d0, d1, d2⟩ := HRD.out.at_ hjl
                  subst hA'
                  have hji : (j : Int) < (L.length : Int) := by omega
                  clear hy
                  rcases Int.lt_trichotomy y0 a2 with h1 | h1 | h1
                  · go_quiet (fail)
                    go_wp2_with fail
                    go_meet
                    exact ⟨_, rfl, Lib.hid (fun _ => HJL.out), Lib.hid ⟨n0 + nq, by simp⟩⟩
                  · have e1 : (y0 == a2) = true := by simpa using h1
                    have e0 : ¬ y0 < a2 := by omega
                    clear h1
                    rcases Int.lt_trichotomy y1 b2 with h2 | h2 | h2
                    · go_quiet (fail)
                      go_wp2_with fail
                      go_meet
                      exact ⟨_, rfl, Lib.hid (fun _ => HJL.out), Lib.hid ⟨n0 + nq, by simp⟩⟩
                    · have e2 : (y1 == b2) = true := by simpa using h2
                      have e3 : ¬ y1 < b2 := by omega
                      clear h2
                      by_cases h3 : y2 < c2
                      · go_quiet (fail)
                        go_wp2_with fail
                        go_meet
                        exact ⟨_, rfl, Lib.hid (fun _ => HJL.out), Lib.hid ⟨n0 + nq, by simp⟩⟩
                      · go_quiet (fail)
                        go_wp2_with fail
                        go_meet
                        exact ⟨_, rfl, Lib.hid (fun _ => HJL.out), Lib.hid ⟨n0 + nq, by simp⟩⟩
                    · have e2 : (y1 == b2) = false := by rw [beq_eq_false_iff_ne]; omega
                      have e3 : ¬ y1 < b2 := by omega
                      go_quiet (fail)
                      go_wp2_with fail
                      go_meet
                      exact ⟨_, rfl, Lib.hid (fun _ => HJL.out), Lib.hid ⟨n0 + nq, by simp⟩⟩
                  · have e1 : (y0 == a2) = false := by rw [beq_eq_false_iff_ne]; omega
                    have e0 : ¬ y0 < a2 := by omega
                    go_quiet (fail)
                    go_wp2_with fail
                    go_meet
                    exact ⟨_, rfl, Lib.hid (fun _ => HJL.out), Lib.hid ⟨n0 + nq, by simp⟩⟩
                · have hji : ¬ (j : Int) < (L.length : Int) := by omega
                  go_quiet (fail)
                  go_wp2_with fail
                  go_meet
                  exact ⟨_, rfl, Lib.hid (fun h => by cases h), Lib.hid ⟨n0 + nq, by simp⟩⟩
              case rest =>
                obtain ⟨tb, rfl, HTB, HW2⟩ := hcut
                cases tb with
                | true =>
                  have hjl := HTB.out rfl
                  cases gk with
                  | zero => exact absurd hjl (by omega)
                  | succ g2 =>
                    go_wp2_with fail
                    go_roundg g2
                    case measure => omega
                    case rel => exact ⟨j + 1, by omega, by go_num, HW2⟩
                | false =>
                  obtain ⟨n1, hn1⟩ := HW2.out
                  have HXC := Lib.hid (show Box wc wo.heap.size 30 #[Value.int .i64 a2, .int .i64 b2, .int .i64 c2] by rw [← hn1]; exact HX2.out.drewN _)
                  have HBC := Lib.hid (show Below wo.heap.size wo wc by rw [← hn1]; exact below_drewN HBB2.out _)
                  have HRC := Lib.hid (show RTri wc wc.heap.size A1 L from (HR1.out.below HBC.out).more HBC.out.size)
                  clear hn1 HW2 HTB x0 x1 x2 HX2 HBB2 HRD
                  have hjc : (j : Int) ≤ (c1 : Int) := by omega
                  have hjl : (j : Int) ≤ (L.length : Int) := by omega
                  have hj0 : (0 : Int) ≤ (j : Int) := by omega
                  rcases HO.out.form with ⟨hA0, hL0⟩ | ⟨g1, hA1, hg1, hg2⟩
                  · skip
                    subst hA0 hL0
                    obtain rfl : j = 0 := by simp at hjl; omega
                    have x0 := HXC.out.cell 0
                    have x1 := HXC.out.cell 1
                    have x2 := HXC.out.cell 2
                    simp only [List.getElem?_toArray, List.getElem?_cons_zero, List.getElem?_cons_succ] at x0 x1 x2
                    go_wp2_with (first
                      | (at_builtin; refine wpList_addT _ rfl _ _ rfl (OwnT.alloc (OwnT.nil_ 30 wc wo.heap.size) _) rfl wc.heap.size _ a2 b2 c2 rfl (Box.new _ _ _) ?_ ?_ ?_; (simp); (have := HBC.out.size; simp; omega); intro v4 w4 ho4 hg4; have hb4 := (HBC.out.alloc HBC.out.size (Obj.cells #[Value.int .i64 a2, Value.int .i64 b2, Value.int .i64 c2] 30)).grown hg4 (by have := HBC.out.size; simp; omega) (fun i hi => by cases hi))
                      | (at_builtin; refine wpList_appT _ rfl _ _ rfl ho4 rfl none 0 [] _ w4.heap.size rfl rfl RTri.nil_ ?_ ?_ ?_; (simp); (exact hb4.size); intro v5 w5 ho5 hg5; have hk4 := ho4.blk; have hb5 := hb4.grown hg5 hb4.size (fun i hi => (hk4 i hi).1); obtain ⟨A5, c5, rfl, hr5⟩ := ho5.reads))
                    all_goals
                      have hc5 := RCheck2_any A5 (m : Int) ([] ++ [(a2, b2, c2)] ++ []) c5 w5 hr5 (by simp; try omega)
                      have hl5 : ([] ++ [(a2, b2, c2)] ++ [] : List Tri).length = 1 := by simp; try omega
                      rw [hl5] at hc5
                      have hk5 := ho5.blk
                      have HO5 := Lib.hid ho5
                      have HB5 := Lib.hid hb5
                      have HL5 := Lib.hid hl5
                      refine hc5.mono ?_
                      rintro e w6 ⟨rfl, hb6⟩
                      have HB6 := Lib.hid (HB5.out.trans (hb6.mono HB5.out.size))
                      have HO6 := Lib.hid ((HO5.out.below hb6 (fun g e => (hk5 g e).2.1)).more HB.out.size)
                      have HOO := Lib.hid (HO.out.below HB6.out (fun g e => (HO.out.blk g e).2.1))
                      have HBW := Lib.hid (HB.out.trans (HB6.out.mono HB.out.size))
                      obtain ⟨z, hz⟩ : ∃ z, checkT (m : Int) ([] ++ [(a2, b2, c2)] ++ []) = z := ⟨_, rfl⟩
                      rw [hz]
                      have HZ := Lib.hid hz
                      clear hz hc5 hl5 hk5 ho5 hb5 hr5 hb6 ho4 hb4 hk4 hg4 hg5
                      by_cases h0 : z = 0
                      · subst h0
                        go_wp2_with fail
                        go_roundg g
                        case measure => omega
                        case rel => exact ⟨k + 1, Value.slice A5 (1) c5, [] ++ [(a2, b2, c2)] ++ [], by omega, rfl, by go_num, by rw [HL5.out]; omega, HZ, Lib.hid (by rw [← HL5.out]; exact HO6.out), HBW⟩
                      · have hz0 : (z == 0) = false := by simpa using h0
                        clear h0
                        go_wp2_with fail
                        go_roundg g
                        case measure => omega
                        case rel => exact ⟨k + 1, Value.slice none 0 c1, [], by omega, rfl, by go_num, hLK, HC, HOO, HBW⟩
                  · skip
                    subst hA1
                    have hLj : j ≤ L.length := by omega
                    have HT1 := Lib.hid (show j = (L.take j).length by simp; omega)
                    have HT2 := Lib.hid (show ([] : List Tri).length + (L.take j).length ≤ 1000000 by simp; omega)
                    have HT3 := Lib.hid (show ([] ++ L.take j : List Tri).length ≤ 1000000 by simp; omega)
                    have HT4 := Lib.hid (show L.length - j = (L.drop j).length by simp)
                    have HT5 := Lib.hid (show ([] ++ L.take j ++ [(a2, b2, c2)] : List Tri).length + (L.drop j).length ≤ 1000000 by simp; omega)
                    have x0 := HXC.out.cell 0
                    have x1 := HXC.out.cell 1
                    have x2 := HXC.out.cell 2
                    simp only [List.getElem?_toArray, List.getElem?_cons_zero, List.getElem?_cons_succ] at x0 x1 x2
                    go_wp2_with (first
                      | (at_builtin; refine wpList_appT _ rfl _ _ rfl (OwnT.nil_ 30 wc wo.heap.size) rfl (some ⟨g1, 0, none⟩) j (L.take j) c1 wc.heap.size rfl HT1.out (HRC.out.take j) HT2.out HBC.out.size ?_; intro v3 w3 ho3 hg3; have hx3 := HXC.out.grown hg3 (fun e => by cases e); have z0 := hx3.cell 0; have z1 := hx3.cell 1; have z2 := hx3.cell 2; simp only [List.getElem?_toArray, List.getElem?_cons_zero, List.getElem?_cons_succ] at z0 z1 z2; have hb3 := HBC.out.grown hg3 HBC.out.size (fun k hk => by cases hk))
                      | (at_builtin; refine wpList_addT _ rfl _ _ rfl (OwnT.alloc ho3 _) rfl w3.heap.size _ a2 b2 c2 rfl (Box.new _ _ _) HT3.out ?_ ?_; (have := hb3.size; simp; omega); intro v4 w4 ho4 hg4; have hk3 := ho3.blk; have hb4 := (hb3.alloc hb3.size (Obj.cells #[Value.int .i64 a2, Value.int .i64 b2, Value.int .i64 c2] 30)).grown hg4 (by have := hb3.size; simp; omega) (fun i hi => (hk3 i hi).1))
                      | (at_builtin; refine wpList_appT _ rfl _ _ rfl ho4 rfl _ (L.length - j) (L.drop j) _ w4.heap.size rfl HT4.out (RTri.dropIf ((HR1.out.below hb4).more hb4.size) hc1) HT5.out hb4.size ?_; intro v5 w5 ho5 hg5; have hk4 := ho4.blk; have hb5 := hb4.grown hg5 hb4.size (fun i hi => (hk4 i hi).1); obtain ⟨A5, c5, rfl, hr5⟩ := ho5.reads))
                    all_goals
                      have hc5 := RCheck2_any A5 (m : Int) ([] ++ L.take j ++ [(a2, b2, c2)] ++ L.drop j) c5 w5 hr5 (by simp; try omega)
                      have hl5 : ([] ++ L.take j ++ [(a2, b2, c2)] ++ L.drop j : List Tri).length = j + (L.length - j + 1) := by simp; try omega
                      rw [hl5] at hc5
                      have hk5 := ho5.blk
                      have HO5 := Lib.hid ho5
                      have HB5 := Lib.hid hb5
                      have HL5 := Lib.hid hl5
                      refine hc5.mono ?_
                      rintro e w6 ⟨rfl, hb6⟩
                      have HB6 := Lib.hid (HB5.out.trans (hb6.mono HB5.out.size))
                      have HO6 := Lib.hid ((HO5.out.below hb6 (fun g e => (hk5 g e).2.1)).more HB.out.size)
                      have HOO := Lib.hid (HO.out.below HB6.out (fun g e => (HO.out.blk g e).2.1))
                      have HBW := Lib.hid (HB.out.trans (HB6.out.mono HB.out.size))
                      obtain ⟨z, hz⟩ : ∃ z, checkT (m : Int) ([] ++ L.take j ++ [(a2, b2, c2)] ++ L.drop j) = z := ⟨_, rfl⟩
                      rw [hz]
                      have HZ := Lib.hid hz
                      clear hz hc5 hl5 hk5 ho5 hb5 hr5 hb6 ho4 hb4 hk4 hg4 hg5
                      by_cases h0 : z = 0
                      · subst h0
                        go_wp2_with fail
                        go_roundg g
                        case measure => omega
                        case rel => exact ⟨k + 1, Value.slice A5 (j + (L.length - j + 1)) c5, [] ++ L.take j ++ [(a2, b2, c2)] ++ L.drop j, by omega, rfl, by go_num, by rw [HL5.out]; omega, HZ, Lib.hid (by rw [← HL5.out]; exact HO6.out), HBW⟩
                      · have hz0 : (z == 0) = false := by simpa using h0
                        clear h0
                        go_wp2_with fail
                        go_roundg g
                        case measure => omega
                        case rel => first | exact ⟨k + 1, Value.slice (some ⟨g1, 0, none⟩) L.length c1, L, by omega, rfl, by go_num, hLK, HC, HOO, HBW⟩ | (have hcj : c1 = j := (by omega); rw [hcj] at HOO; exact ⟨k + 1, Value.slice (some ⟨g1, 0, none⟩) L.length j, L, by omega, rfl, by go_num, hLK, HC, HOO, HBW⟩)
end Go.Proofs.Ythbhengcinkepaa
