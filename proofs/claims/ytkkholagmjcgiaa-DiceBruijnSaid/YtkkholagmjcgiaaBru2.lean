/- The statement DiceBruijn: its function answers true. -/
import Derived.Test.YtkkholagmjcgiaaBru1
import Derived.Test.YtkkholagmjcgiaaBruL
import Derived.IntWalk
namespace Go.Proofs.Ytkkholagmjcgiaa
open Go.RowKit Go.Shelf

theorem one_to_8 (a : Int) : ∃ n : Nat, 1 ≤ n ∧ n ≤ 8 ∧ wrap64 (1 + wrap64 ((IntKind.u64.wrap a).tmod 8)) = (n : Int) := by
  have h0 : 0 ≤ IntKind.u64.wrap a := by
    simp only [IntKind.wrap, IntKind.signed, Bool.false_and, Bool.false_eq_true, if_false]
    exact Int.emod_nonneg _ (by decide)
  have h1 : (IntKind.u64.wrap a).tmod 8 = IntKind.u64.wrap a % 8 := Int.tmod_eq_emod_of_nonneg h0
  have h2 : 0 ≤ IntKind.u64.wrap a % 8 := Int.emod_nonneg _ (by decide)
  have h3 : IntKind.u64.wrap a % 8 < 8 := Int.emod_lt_of_pos _ (by decide)
  rw [h1]
  obtain ⟨r, hr⟩ : ∃ r, IntKind.u64.wrap a % 8 = r := ⟨_, rfl⟩
  rw [hr] at h2 h3 ⊢
  refine ⟨(1 + r).toNat, by omega, by omega, ?_⟩
  unfold wrap64
  omega

theorem bru_data (n m : Nat) (hn1 : 1 ≤ n) (hn8 : n ≤ 8) (hm1 : 1 ≤ m) (hm8 : m ≤ 8) : (evenL n m).length = chains n m ∧ (evenL m n).length = (evenL n m).length ∧ ∀ p ∈ evenL n m, pairOk n m (evenL m n) p = true := by
  have h := even_all n m hn1 hn8 hm1 hm8
  simp only [evenOk, Bool.and_eq_true, beq_iff_eq, List.all_eq_true] at h
  exact ⟨h.1.1, h.1.2, h.2⟩

theorem eqP (a b c d : Int) (w : World) : (Op.equalIn 10000 59 (.agg #[.int .i64 a, .int .i64 b]) (.agg #[.int .i64 c, .int .i64 d])).run Try.prog w = .ok (a == c && b == d) w := by
  have u3 := Try.underlying2
  have a3 := Try.isAgg2
  have z3 := Try.sizeOf2
  rw [show (10000 : Nat) = 9999 + 1 from rfl, Op.equalIn]
  simp only [Sem.run_bind, run_underlying Try.underlying59, Result.andThen_ok]
  simp only [Std.Legacy.Range.forIn_eq_forIn_range', Std.Legacy.Range.size, Nat.sub_zero, Nat.add_sub_cancel, Nat.div_one, List.range'_succ, List.range'_zero, List.forIn_cons, List.forIn_nil]
  go_simp
  by_cases h1 : a = c <;> by_cases h2 : b = d <;> simp [h1, h2]
theorem eqP_same (a b : Int) (w : World) : (Op.equalIn 10000 59 (.agg #[.int .i64 a, .int .i64 b]) (.agg #[.int .i64 a, .int .i64 b])).run Try.prog w = .ok true w := by
  rw [eqP]
  simp

/-- Whether one of the first pairs is the one asked for. -/
def fnd (u : List (List Int × List Int)) (y x : List Int) (k : Nat) : Bool := (u.take k).any fun q => decide (q.1 = y) && decide (q.2 = x)
theorem fnd_succ {u : List (List Int × List Int)} {y x : List Int} {k : Nat} {q : List Int × List Int} (h : u[k]? = some q) : fnd u y x (k + 1) = (fnd u y x k || (decide (q.1 = y) && decide (q.2 = x))) := by
  have hk := (List.getElem?_eq_some_iff.1 h)
  unfold fnd
  rw [List.take_succ_eq_append_getElem hk.1, hk.2, List.any_append]
  simp
theorem fnd_all {u : List (List Int × List Int)} {y x : List Int} {q : List Int × List Int} (h : q ∈ u) (h1 : q.1 = y) (h2 : q.2 = x) : fnd u y x u.length = true := by
  unfold fnd
  rw [List.take_length, List.any_eq_true]
  exact ⟨q, h, by simp [h1, h2]⟩

theorem chains_pos : ∀ n < 9, ∀ m < 9, 1 ≤ n → 1 ≤ m → 1 ≤ chains n m := by decide +kernel

set_option maxRecDepth 100000 in
set_option maxHeartbeats 8000000 in
theorem bru_any (a0 a1 : Int) (w : World) : Calls Try.prog 16 #[.int .i64 a0, .int .i64 a1] w fun e w' => e = .returned (.bool true) ∧ Below w.heap.size w w' := by
  obtain ⟨n, hn1, hn8, hn⟩ := one_to_8 a0
  obtain ⟨m, hm1, hm8, hm⟩ := one_to_8 a1
  have HN := Lib.hid hn
  have HM := Lib.hid hm
  have HDT := Lib.hid (bru_data n m hn1 hn8 hm1 hm8)
  clear hn hm
  go_enter Try.func16, Try.ntmps16
  go_wp2_with fail
  rw [HN.out, HM.out]
  refine (Even_ok n m hn1 hn8 hm1 hm8 w).mono ?_
  rintro e w1 ⟨dv, rfl, hod, hb1⟩
  have HOD := Lib.hid hod
  have HB1 := Lib.hid hb1
  clear hod hb1
  go_wp2_with fail
  refine (Even_ok m n hm1 hm8 hn1 hn8 w1).mono ?_
  rintro e w2 ⟨uv, rfl, hou, hb2⟩
  have HOU := Lib.hid hou
  have HB2 := Lib.hid hb2
  clear hou hb2
  go_wp2_with fail
  refine (Chains_ok n m hn1 hn8 hm1 hm8 w2).mono ?_
  rintro e w3 ⟨rfl, rfl⟩
  obtain ⟨K, hK⟩ : ∃ K, (evenL n m).length = K := ⟨_, rfl⟩
  have hc : chains n m = K := by rw [← HDT.out.1, hK]
  have hu : (evenL m n).length = K := by rw [HDT.out.2.1, hK]
  rw [hc]
  have hK1 : 1 ≤ K := by rw [← hc]; exact chains_pos n (by omega) m (by omega) hn1 hm1
  obtain ⟨gd, kd, rfl, hrd⟩ := HOD.out.reads (by omega)
  obtain ⟨gu, ku, rfl, hru⟩ := HOU.out.reads (by omega)
  rw [hK, hu]
  have HRD := Lib.hid (show RPairs w2 w2.heap.size (some ⟨gd, 0, none⟩) (evenL n m) from (hrd.below HB2.out).more HB2.out.size)
  have HRU := Lib.hid hru
  have HKD := Lib.hid hK
  have HKU := Lib.hid hu
  have HPF := Lib.hid (fun p hp => pair_facts (HDT.out.2.2 p hp))
  have HPG := Lib.hid (fun v hv => let h := pair_facts ((bru_data m n hm1 hm8 hn1 hn8).2.2 v hv); (⟨h.1, h.2.1⟩ : v.1.length = m ∧ v.2.length = n))
  have HB20 := Lib.hid (HB1.out.trans (HB2.out.mono HB1.out.size))
  have hK6 : K ≤ 1000000 := by
    have h1 := chn_lt n (by omega) m (by omega)
    have h2 := chn_lt m (by omega) n (by omega)
    unfold chains at hc
    split at hc <;> omega
  have hp64 : n * m ≤ 64 := Nat.mul_le_mul hn8 hm8
  obtain ⟨p, hp⟩ : ∃ p, n * m = p := ⟨_, rfl⟩
  rw [hp] at hp64
  have hp1 : 1 ≤ p := by rw [← hp]; exact Nat.mul_le_mul hn1 hm1
  have HP := Lib.hid hp
  clear hrd hru hK hu hc HDT HOD HOU HB1 HB2 hp
  go_wp2_with fail
  go_loopg [11] K (fun g i wx => ∃ k : Nat, k + g = K ∧ i = .int .i64 k ∧ Hid (Below w2.heap.size w2 wx))
  case atStart => exact ⟨0, by omega, rfl, Lib.hid (Below.refl _ _)⟩
  case round =>
    obtain ⟨k, hk, rfl, HBW⟩ := hrel
    have HB := HBW
    clear HBW
    cases gk with
    | zero =>
      obtain rfl : k = K := by omega
      go_wp2_with fail
      refine (awake_any _).mono ?_
      rintro e w9 ⟨rfl, hb9⟩
      have HB9 := Lib.hid (HB20.out.trans ((HB.out.trans (hb9.mono HB.out.size)).mono HB20.out.size))
      clear hb9
      go_wp2_with fail
      go_ret
      exact ⟨rfl, HB9.out⟩
    | succ g =>
      have hlt : k < (evenL n m).length := by rw [HKD.out]; omega
      obtain ⟨q, hq⟩ : ∃ q, (evenL n m)[k]? = some q := ⟨_, List.getElem?_eq_getElem hlt⟩
      obtain ⟨f1, f2, f3, f4, f5, ⟨q2, hq2, f6, f7⟩, f8, f9⟩ := HPF.out q (List.mem_of_getElem? hq)
      obtain ⟨g1, ax, cx, ay, cy, e1, hg1, c1, c2, l1, l2, r1, r2⟩ := (HRD.out.below HB.out) k q hq
      cases e1
      obtain ⟨x, y⟩ := q
      simp only at f1 f2 f3 f4 f5 f6 f7 f8 f9 c1 c2 l1 l2 r1 r2
      have hki : (k : Int) < (K : Int) := by omega
      have hk0 : (0 : Int) ≤ (k : Int) := by omega
      have HX := Lib.hid f1
      have HY := Lib.hid f2
      have HF3 := Lib.hid f3
      have HF4 := Lib.hid f4
      have HF5 := Lib.hid f5
      have HQ2 := Lib.hid hq2
      have HF6 := Lib.hid f6
      have HF7 := Lib.hid f7
      have HF8 := Lib.hid f8
      have HF9 := Lib.hid f9
      have HR1 := Lib.hid (r1.more HB.out.size)
      have HR2 := Lib.hid (r2.more HB.out.size)
      clear f1 f2 f3 f4 f5 hq2 f6 f7 f8 f9 r1 r2 hq hlt
      go_wp2_with fail
      go_quiet (fail)
      go_wp2_with fail
      have HSM := Lib.hid (Sums_ok (some ⟨wr.heap.size, 0, none⟩) [x, y] 2 ((wr.drewN nq).alloc (Obj.cells #[.slice ax x.length cx, .slice ay y.length cy] 36)) (by
        have h1 := RDice.two (w := wr.drewN nq) (c1 := cx) (c2 := cy) (HR1.out.drewN nq) (HR2.out.drewN nq) l1 l2 (Nat.le_refl _)
        exact h1.more (by simp)) HF8.out)
      refine HSM.out.mono ?_
      rintro e w5 ⟨sv, rfl, hps, hb5⟩
      rw [HF9.out, HP.out] at hps
      obtain ⟨gs, ks, rfl, _, hgs, hcs⟩ := hps.cells (by simpa using hp1)
      have hls : ((List.range p).map fun k : Nat => ((k : Int), (1 : Int))).length = p := by simp
      rw [hls, HX.out, HY.out]
      have HCS := Lib.hid (show ∀ j : Nat, j < p → w5.cell? ⟨gs, j * 2, none⟩ = some (.int .i64 j) ∧ w5.cell? ⟨gs, j * 2 + 1, none⟩ = some (.int .i64 1) from fun j hj => hcs j ((j : Int), 1) (by simp [hj]))
      have hq5 : Below wr.heap.size wr w5 := by
        have h1 : Below (wr.drewN nq).heap.size (wr.drewN nq) ((wr.drewN nq).alloc (Obj.cells #[.slice ax x.length cx, .slice ay y.length cy] 36)) := (Below.refl _ _).alloc (Nat.le_refl _) _
        have h2 := keepC2 h1 (by simp) hb5
        exact ⟨h2.os, h2.tape, h2.output, h2.size, h2.block⟩
      have HB5 := Lib.hid (HB.out.trans (hq5.mono HB.out.size))
      have hx5 := (HR1.out.below hq5).more hq5.size
      have hy5 := (HR2.out.below hq5).more hq5.size
      have HX5 := Lib.hid hx5
      have HY5 := Lib.hid hy5
      obtain ⟨bx, ox, x0, hax, hbx, hx0, cx0⟩ := hx5.at_ (k := 0) (by rw [HX.out]; omega)
      obtain ⟨_, _, x1, hax1, _, hx1, cx1⟩ := hx5.at_ (k := n - 1) (by rw [HX.out]; omega)
      obtain ⟨by_, oy, y0, hay, hby, hy0, cy0⟩ := hy5.at_ (k := 0) (by rw [HY.out]; omega)
      obtain ⟨_, _, y1, hay1, _, hy1, cy1⟩ := hy5.at_ (k := m - 1) (by rw [HY.out]; omega)
      subst hax hay
      cases hax1
      cases hay1
      rw [Nat.add_zero] at cx0 cy0
      obtain rfl : x0 = 0 := by have := HF3.out; simpa [List.getD, hx0] using this
      obtain rfl : y0 = 0 := by have := HF4.out; simpa [List.getD, hy0] using this
      have hxy : x1 + y1 = (p : Int) - 1 := by
        have h1 := HF5.out
        rw [show x.getD (n - 1) 0 = x1 by simp [List.getD, hx1], show y.getD (m - 1) 0 = y1 by simp [List.getD, hy1]] at h1
        rw [h1, ← HP.out]
        push_cast
        rfl
      obtain ⟨n1, hn9⟩ : ∃ n1, n - 1 = n1 := ⟨_, rfl⟩
      obtain ⟨m1, hm9⟩ : ∃ m1, m - 1 = m1 := ⟨_, rfl⟩
      rw [hn9] at cx1
      rw [hm9] at cy1
      have hnm : (n : Int) * (m : Int) = (p : Int) := by rw [← HP.out]; push_cast; rfl
      have hn1i : (n1 : Int) < (n : Int) := by omega
      have hm1i : (m1 : Int) < (m : Int) := by omega
      have hn0i : (0 : Int) < (n : Int) := by omega
      have hm0i : (0 : Int) < (m : Int) := by omega
      have hn0n : 0 < n := by omega
      have hm0n : 0 < m := by omega
      have hw1 : IntKind.i64.wrap ((n : Int) - 1) = (n1 : Int) := by rw [IntWalk.i64_in _ (by omega)]; omega
      have hw2 : IntKind.i64.wrap ((m : Int) - 1) = (m1 : Int) := by rw [IntWalk.i64_in _ (by omega)]; omega
      have hw3 : IntKind.i64.wrap (x1 + y1) = (p : Int) - 1 := by rw [hxy]; exact IntWalk.i64_in _ (by omega)
      have hw4 : IntKind.i64.wrap ((p : Int) - 1) = (p : Int) - 1 := IntWalk.i64_in _ (by omega)
      have hw5 : IntKind.i64.wrap (p : Int) = (p : Int) := IntWalk.i64_in _ (by omega)
      clear hx0 hx1 hy0 hy1 hx5 hy5 hcs hps hls hb5 hq5 hxy hn9 hm9 c1 c2
      go_wp2_with fail
      go_quiet (fail)
      go_wp2_with fail
      clear hw1 hw2 hw3 hw4 hw5 cx0 cx1 cy0 cy1 hnm hn1i hm1i hn0i hm0i hn0n hm0n
      go_loopg [16] p (fun g1 i wx => ∃ j : Nat, j + g1 = p ∧ i = .int .i64 j ∧ Hid (∃ nn, w5.drewN nn = wx))
      case atStart => exact ⟨0, by omega, rfl, Lib.hid ⟨_, rfl⟩⟩
      case round =>
        obtain ⟨j, hj, rfl, HWW⟩ := hrel
        obtain ⟨nn, hnn⟩ := HWW.out
        clear HWW
        subst hnn
        cases gk with
        | succ g1 =>
          obtain ⟨cc1, cc2⟩ := HCS.out j (by omega)
          have hjp : (j : Int) < (p : Int) := by omega
          have hj0 : (0 : Int) ≤ (j : Int) := by omega
          have heq := eqP_same (j : Int) 1
          go_wp2_with fail
          go_roundg g1
          case measure => omega
          case rel => exact ⟨j + 1, by omega, by go_num, Lib.hid ⟨nn, rfl⟩⟩
        | zero =>
          obtain rfl : j = p := by omega
          go_wp2_with fail
          go_loopg [17, 18] K (fun g1 fv i wx => ∃ z : Nat, z + g1 = K ∧ i = .int .i64 z ∧ fv = .bool (fnd (evenL m n) y x z) ∧ Hid (∃ nn, w5.drewN nn = wx))
          case atStart => exact ⟨0, by omega, rfl, by simp [fnd], Lib.hid ⟨nn, rfl⟩⟩
          case round =>
            obtain ⟨z, hz, rfl, rfl, HWW⟩ := hrel
            obtain ⟨nn2, hnn⟩ := HWW.out
            clear HWW
            subst hnn
            cases gk with
            | zero =>
              obtain rfl : z = K := by omega
              have HFD := Lib.hid (show fnd (evenL m n) y x z = true by
                rw [← HKU.out]
                exact fnd_all HQ2.out HF6.out HF7.out)
              rw [HFD.out]
              go_wp2_with fail
              go_roundg g
              case measure => omega
              case rel => exact ⟨k + 1, by omega, by go_num, Lib.hid (Below.drewN_ HB5.out nn2)⟩
            | succ g1 =>
              have hltu : z < (evenL m n).length := by rw [HKU.out]; omega
              obtain ⟨v, hv⟩ : ∃ v, (evenL m n)[z]? = some v := ⟨_, List.getElem?_eq_getElem hltu⟩
              obtain ⟨g2, ax2, cx2, ay2, cy2, e2, hg2, d1, d2, l3, l4, r3, r4⟩ := ((HRU.out.below HB5.out) z v hv)
              cases e2
              have HFS := Lib.hid (fnd_succ (y := y) (x := x) hv)
              have HR3 := Lib.hid (r3.more HB5.out.size)
              have HR4 := Lib.hid (r4.more HB5.out.size)
              have hzk : (z : Int) < (K : Int) := by omega
              have hz0 : (0 : Int) ≤ (z : Int) := by omega
              have hlv := HPG.out v (List.mem_of_getElem? hv)
              have HI1 := Lib.hid (fun q => ints_any ax2 (some ⟨by_, oy, none⟩) v.1 y cx2 cy w5.heap.size (w5.drewN q) (HR3.out.drewN q) (HY5.out.drewN q) (by rw [hlv.1]; omega) (by rw [HY.out]; omega))
              have HI2 := Lib.hid (fun q => ints_any ay2 (some ⟨bx, ox, none⟩) v.2 x cy2 cx w5.heap.size (w5.drewN q) (HR4.out.drewN q) (HX5.out.drewN q) (by rw [hlv.2]; omega) (by rw [HX.out]; omega))
              rw [HY.out] at HI1
              rw [HX.out] at HI2
              clear hlv
              clear r3 r4 hv
              cases hfz : fnd (evenL m n) y x z with
              | true =>
                have HFN := Lib.hid (show fnd (evenL m n) y x (z + 1) = true by rw [HFS.out, hfz]; rfl)
                clear hfz
                go_wp2_with fail
                go_roundg g1
                case measure => omega
                case rel => exact ⟨z + 1, by omega, by go_num, by rw [HFN.out], Lib.hid ⟨nn2, rfl⟩⟩
              | false =>
                by_cases h1 : v.1 = y
                · have HT1 := Lib.hid (show decide (v.1 = y) = true by simp [h1])
                  by_cases h2 : v.2 = x
                  · have HFN := Lib.hid (show fnd (evenL m n) y x (z + 1) = true by rw [HFS.out, hfz]; simp [h1, h2])
                    have HT2 := Lib.hid (show decide (v.2 = x) = true by simp [h2])
                    clear hfz h1 h2
                    go_wp2_with fail
                    refine (HI1.out nn2).mono ?_
                    rintro e w6 ⟨rfl, n6, rfl⟩
                    rw [HT1.out, World.drewN_drewN]
                    go_wp2_with fail
                    refine (HI2.out _).mono ?_
                    rintro e w7 ⟨rfl, n7, rfl⟩
                    rw [HT2.out, World.drewN_drewN]
                    go_wp2_with fail
                    go_roundg g1
                    case measure => omega
                    case rel => exact ⟨z + 1, by omega, by go_num, by rw [HFN.out], Lib.hid ⟨_, rfl⟩⟩
                  · have HFN := Lib.hid (show fnd (evenL m n) y x (z + 1) = false by rw [HFS.out, hfz]; simp [h2])
                    have HT2 := Lib.hid (show decide (v.2 = x) = false by simp [h2])
                    clear hfz h1 h2
                    go_wp2_with fail
                    refine (HI1.out nn2).mono ?_
                    rintro e w6 ⟨rfl, n6, rfl⟩
                    rw [HT1.out, World.drewN_drewN]
                    go_wp2_with fail
                    refine (HI2.out _).mono ?_
                    rintro e w7 ⟨rfl, n7, rfl⟩
                    rw [HT2.out, World.drewN_drewN]
                    go_wp2_with fail
                    go_roundg g1
                    case measure => omega
                    case rel => exact ⟨z + 1, by omega, by go_num, by rw [HFN.out], Lib.hid ⟨_, rfl⟩⟩
                · have HT1 := Lib.hid (show decide (v.1 = y) = false by simp [h1])
                  have HFN := Lib.hid (show fnd (evenL m n) y x (z + 1) = false by rw [HFS.out, hfz]; simp [h1])
                  clear hfz h1
                  go_wp2_with fail
                  refine (HI1.out nn2).mono ?_
                  rintro e w6 ⟨rfl, n6, rfl⟩
                  rw [HT1.out, World.drewN_drewN]
                  go_wp2_with fail
                  go_roundg g1
                  case measure => omega
                  case rel => exact ⟨z + 1, by omega, by go_num, by rw [HFN.out], Lib.hid ⟨_, rfl⟩⟩

end Go.Proofs.Ytkkholagmjcgiaa
