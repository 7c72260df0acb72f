/- For any lists of integers: the function DiceAdds answers true: of the dice made of them, and of both together, the ways of all sums add up to the results, and the ways of each sum are those of a sum of the ones and one of the others, added up over all such two; the sums rise. No conditions. -/
import Derived.Test.YtkkholagmjcgiaaAddsB
namespace Go.Proofs.Ytkkholagmjcgiaa
open Go.ChangeShapes Go.WideShapes Go.ChangeAt Go.RowKit

set_option maxRecDepth 100000 in
set_option maxHeartbeats 8000000 in
theorem adds_law (A A2 : Option Addr) (l l2 : List (List Int)) (c c2 : Nat) (w : World) (hr : RDice w w.heap.size A l) (hr2 : RDice w w.heap.size A2 l2) (hl : l.length ≤ 9223372036854775807) (hl2 : l2.length ≤ 9223372036854775807) (hd : ∀ x ∈ l, x.length ≤ 9223372036854775807) (hd2 : ∀ x ∈ l2, x.length ≤ 9223372036854775807) :
    Calls Try.prog 13 #[.slice A l.length c, .slice A2 l2.length c2] w fun e w' => e = .returned (.bool true) ∧ Below w.heap.size w w' := by
  have HS := Lib.hid (show Calls Try.prog 36 #[.slice A l.length c, .int .i64 3, .int .i64 20] w (GaveD w (someL l 3 (20 : Nat))) from some_any A l c 3 20 w hr hl hd (by decide) (by decide))
  have HS2 := Lib.hid (fun (W : World) (hb : Below w.heap.size w W) => show Calls Try.prog 36 #[.slice A2 l2.length c2, .int .i64 3, .int .i64 20] W (GaveD W (someL l2 3 (20 : Nat))) from some_any A2 l2 c2 3 20 W ((hr2.below hb).more hb.size) hl2 hd2 (by decide) (by decide))
  have hdx : AreDice (someL l 3 (20 : Nat)) := someL_dice l (by decide) (by decide) (by decide)
  have hdy : AreDice (someL l2 3 (20 : Nat)) := someL_dice l2 (by decide) (by decide) (by decide)
  have hmx := maxW_small (someL_last l (many := 3) (most := 20))
  have hmy := maxW_small (someL_last l2 (many := 3) (most := 20))
  have hlx := someL_many l (many := 3) (20 : Nat) (by decide)
  have hly := someL_many l2 (many := 3) (20 : Nat) (by decide)
  obtain ⟨dx, hdx'⟩ : ∃ dx, someL l 3 (20 : Nat) = dx := ⟨_, rfl⟩
  obtain ⟨dy, hdy'⟩ : ∃ dy, someL l2 3 (20 : Nat) = dy := ⟨_, rfl⟩
  rw [hdx'] at HS hdx hmx hlx
  rw [hdy'] at HS2 hdy hmy hly
  have hdb : AreDice (dx ++ dy) := ⟨by rw [List.length_append]; have := hdx.pos; omega, by rw [List.length_append]; omega, fun d h => (List.mem_append.1 h).elim (hdx.die d) (hdy.die d)⟩
  have HDX := Lib.hid hdx
  have HDY := Lib.hid hdy
  have HDB := Lib.hid hdb
  have hA70 : (sumsL dx).length ≤ 61 := Nat.le_trans (sums_len hdx) (by omega)
  have hB70 : (sumsL dy).length ≤ 61 := Nat.le_trans (sums_len hdy) (by omega)
  have hC140 : (sumsL (dx ++ dy)).length ≤ 121 := Nat.le_trans (sums_len hdb) (by rw [maxW_append]; omega)
  have HCP := Lib.hid (fun t => conv_pairs HDX.out HDY.out t)
  obtain ⟨db, hdb'⟩ : ∃ db, dx ++ dy = db := ⟨_, rfl⟩
  have HDBE := Lib.hid hdb'
  rw [hdb'] at HDB hC140 HCP
  clear hdb'
  have HA := Lib.hid awake_any
  have hpx := hdx.pos
  have hpy := hdy.pos
  clear hr hr2 hd hd2 hdx hdy hdb hdx' hdy' hmx hmy
  go_enter Try.func13, Try.ntmps13
  go_wp2_with fail
  refine HS.out.mono ?_
  rintro e w1 ⟨v, G, K, rfl, hv, hb1⟩
  obtain ⟨Ax, cx, rfl, hcx, hrx⟩ := hv.reads
  have HB1 := Lib.hid hb1
  have HRX0 := Lib.hid hrx
  clear hv hb1 hrx HS
  go_wp2_with fail
  refine (HS2.out _ HB1.out).mono ?_
  rintro e w2 ⟨v, G2, K2, rfl, hv, hb2⟩
  obtain ⟨Ay, cy, rfl, hcy, hry⟩ := hv.reads
  have HB2 := Lib.hid (keepC HB1.out hb2)
  have HRX := Lib.hid (show ∀ W, Below w2.heap.size w2 W → RDice W W.heap.size Ax dx from fun W hb => (((HRX0.out.below hb2).more hb2.size).below hb).more hb.size)
  have HRY := Lib.hid (show ∀ W, Below w2.heap.size w2 W → RDice W W.heap.size Ay dy from fun W hb => (hry.below hb).more hb.size)
  clear hv hb2 hry HS2 HRX0 HB1
  go_wp2_with fail
  refine (Sums_ok Ax dx cx w2 (HRX.out _ (Below.refl _ _)) HDX.out).mono ?_
  rintro e w3 ⟨v1, rfl, hp1, hb3⟩
  have HB3 := Lib.hid hb3
  obtain ⟨A1, k1, rfl, hq1⟩ := hp1.reads
  have HQ1 := Lib.hid (pairs_later hq1)
  clear hp1 hq1 hb3
  go_wp2_with fail
  refine (Sums_ok Ay dy cy w3 (HRY.out _ HB3.out) HDY.out).mono ?_
  rintro e w4 ⟨v2, rfl, hp2, hb4⟩
  have HB4 := Lib.hid (keepC HB3.out hb4)
  have HB34 := Lib.hid hb4
  obtain ⟨A3, k2, rfl, hq2⟩ := hp2.reads
  have HQ2 := Lib.hid (pairs_later hq2)
  clear hp2 hq2 hb4 HB3
  -- both
  obtain ⟨us1, hl1, hL1, hR1⟩ := HRX.out w4 HB4.out
  obtain ⟨us2, hl2', hL2, hR2⟩ := HRY.out w4 HB4.out
  obtain ⟨bx, ox, _, hAx, hbx, _, _⟩ := hL1.at_ (k := 0) (by omega)
  subst hAx
  obtain ⟨by_, oy, _, hAy, hby, _, _⟩ := hL2.at_ (k := 0) (by omega)
  subst hAy
  obtain ⟨i0, hi, hz0, hz1, hz2⟩ := info_parts Try.info36
  have HN1 := Lib.hid (show ∀ (j : Nat) (u : Value), us1[j]? = some u → w4.cell? ((⟨bx, ox, none⟩ : Addr).add j) = some u from fun j u hu => by
    obtain ⟨b', o', e', _, hc'⟩ := hL1 j u hu
    cases e'
    rw [add_plain]
    exact hc')
  have HN2 := Lib.hid (show ∀ (W : World), Below w4.heap.size w4 W → ∀ (j : Nat) (u : Value), us2[j]? = some u → W.cell? ((⟨by_, oy, none⟩ : Addr).add j) = some u from fun W hb j u hu => by
    obtain ⟨b', o', e', hlt, hc'⟩ := hL2 j u hu
    cases e'
    rw [add_plain]
    exact (hb.cell (p := ⟨by_, oy + j, none⟩) hlt).trans hc')
  have HU1 := Lib.hid (show ∀ u ∈ us1, u.oneCell' = true from fun u hu => by
    obtain ⟨i, hi⟩ := List.mem_iff_getElem?.1 hu
    have hlt := (List.getElem?_eq_some_iff.1 hi).1
    obtain ⟨_, _, e', _⟩ := hR1 i u _ hi (List.getElem?_eq_getElem (by omega))
    rw [e']
    rfl)
  have HU2 := Lib.hid (show ∀ u ∈ us2, u.oneCell' = true from fun u hu => by
    obtain ⟨i, hi⟩ := List.mem_iff_getElem?.1 hu
    have hlt := (List.getElem?_eq_some_iff.1 hi).1
    obtain ⟨_, _, e', _⟩ := hR2 i u _ hi (List.getElem?_eq_getElem (by omega))
    rw [e']
    rfl)
  have HNIL := Lib.hid (show w4.ownsRow w4.heap.size 36 1 (.slice none 0 0) 0 [] from ⟨by simp, .inl ⟨rfl, rfl⟩⟩)
  have HLL := Lib.hid (And.intro hl1 hl2')
  have HRR := Lib.hid (And.intro hR1 hR2)
  have hx1 : 0 + dx.length ≤ maxLen := by unfold maxLen; omega
  have hx2 : (0 + dx.length) * 24 ≤ 140737488355328 := by omega
  have hy1 : 0 + dx.length + dy.length ≤ maxLen := by unfold maxLen; omega
  have hy2 : (0 + dx.length + dy.length) * 24 ≤ 140737488355328 := by omega
  clear hl1 hl2' hL1 hL2 hR1 hR2
  go_wp2_with (first
    | (at_builtin; (refine wpList_append_own_at _ rfl _ _ 22 rfl w4.heap.size 36 i0 (.slice none 0 0) 1 24 Try.underlying22 hi hz0 hz1 hz2 rfl (by decide) _ _ _ rfl HNIL.out ⟨bx, ox, none⟩ dx.length cx us1 rfl (by rw [HLL.out.1, Nat.mul_one]) HN1.out HU1.out hx1 hx2 (Nat.le_refl _) ?_; intro v5 w5 ht5 hg5 _ hat5; have HT5 := Lib.hid ht5; have HG5 := Lib.hid ((Below.refl w4.heap.size w4).grown hg5 (Nat.le_refl _) (fun k hk => by cases hk)); clear ht5 hg5 hat5))
    | (at_builtin; (refine wpList_append_own_at _ rfl _ _ 22 rfl w4.heap.size 36 i0 (.slice none 0 0) 1 24 Try.underlying22 hi hz0 hz1 hz2 rfl (by decide) _ _ _ rfl HT5.out ⟨by_, oy, none⟩ dy.length cy us2 rfl (by rw [HLL.out.2, Nat.mul_one]) (HN2.out _ HG5.out) HU2.out hy1 hy2 HG5.out.size ?_; intro v6 w6 ht6 hg6 _ hat6; have HT6 := Lib.hid ht6; have HG6 := Lib.hid (HG5.out.grown hg6 HG5.out.size (fun k hk => (slices_blk HT5.out k hk).1)); clear ht6 hg6 hat6)))
  obtain ⟨Ab, cb, e6, hrb⟩ := both_dice (w := w4) (dx := dx) (dy := dy) (us1 := us1) (us2 := us2) (by simpa using HT6.out) HLL.out.1 HLL.out.2 HRR.out.1 HRR.out.2 HG6.out
  subst e6
  rw [HDBE.out] at hrb ⊢
  have HRB := Lib.hid (show ∀ W, Below w6.heap.size w6 W → RDice W W.heap.size Ab db from fun W hb => (hrb.below hb).more hb.size)
  have HBW6 := Lib.hid (keepC (keepC HB2.out HB4.out) HG6.out)
  have HQ1b := Lib.hid (fun W (hb : Below w6.heap.size w6 W) => HQ1.out W (keepC (keepC HB34.out HG6.out) hb))
  have HQ2b := Lib.hid (fun W (hb : Below w6.heap.size w6 W) => HQ2.out W (keepC HG6.out hb))
  clear hrb HT6 HT5 HLL HRR HG6 HG5 HU1 HU2 HN1 HN2 HNIL HB2 HB4 HB34 HQ1 HQ2 HRX HRY hx1 hx2 hy1 hy2
  refine (Sums_ok Ab db cb w6 (HRB.out _ (Below.refl _ _)) HDB.out).mono ?_
  rintro e w7 ⟨v3, rfl, hp3, hb7⟩
  have HB7 := Lib.hid hb7
  obtain ⟨A4, k3, rfl, hq3⟩ := hp3.reads
  have HQ3 := Lib.hid (pairs_later hq3)
  clear hp3 hq3 hb7
  go_wp2_with fail
  refine (Results_ok Ab db cb _ w7 (HRB.out _ HB7.out) HDB.out).mono ?_
  rintro e w8 ⟨rfl, n8, hw8⟩
  have HB8 := Lib.hid (show Below w7.heap.size w7 w8 by rw [hw8]; exact Below.drewN_ (Below.refl _ _) n8)
  clear hw8
  have HQ1c := Lib.hid (fun W (hb : Below w8.heap.size w8 W) => HQ1b.out W (keepC (keepC HB7.out HB8.out) hb))
  have HQ2c := Lib.hid (fun W (hb : Below w8.heap.size w8 W) => HQ2b.out W (keepC (keepC HB7.out HB8.out) hb))
  have HQ3c := Lib.hid (fun W (hb : Below w8.heap.size w8 W) => HQ3.out W (keepC HB8.out hb))
  have HWY := Lib.hid (fun W x (hb : Below w8.heap.size w8 W) (hx : W64 x) => Ways_ok Ab db cb x W (HRB.out W (keepC (keepC HB7.out HB8.out) hb)) HDB.out hx)
  have HBW8 := Lib.hid (keepC (keepC HBW6.out HB7.out) HB8.out)
  clear HQ1b HQ2b HQ3 HRB HB7 HB8 HBW6
  obtain ⟨R, hR⟩ : ∃ R, resL db = R := ⟨_, rfl⟩
  have HALL := Lib.hid (ways_all HDB.out)
  rw [hR] at HALL ⊢
  obtain ⟨P, hP⟩ : ∃ P, sumsL dx = P := ⟨_, rfl⟩
  obtain ⟨Q, hQ⟩ : ∃ Q, sumsL dy = Q := ⟨_, rfl⟩
  obtain ⟨C, hC⟩ : ∃ C, sumsL db = C := ⟨_, rfl⟩
  have HHIT := Lib.hid (fun t p q (h1 : p ∈ P) (h2 : q ∈ Q) => hit_in HDX.out HDY.out t (by rw [hP]; exact h1) (by rw [hQ]; exact h2))
  have HAT1 := Lib.hid (fun i p (h : P[i]? = some p) => sums_at HDX.out (by rw [hP]; exact h))
  have HAT2 := Lib.hid (fun i p (h : Q[i]? = some p) => sums_at HDY.out (by rw [hQ]; exact h))
  have HAT3 := Lib.hid (fun i p (h : C[i]? = some p) => sums_at HDB.out (by rw [hC]; exact h))
  have HRISE := Lib.hid (fun i p q (h1 : C[i]? = some p) (h2 : C[i + 1]? = some q) => sums_rise (ds := db) (by rw [hC]; exact h1) (by rw [hC]; exact h2))
  rw [hP] at hA70 HQ1c HCP ⊢
  rw [hQ] at hB70 HQ2c HCP ⊢
  rw [hC] at hC140 HQ3c HALL ⊢
  clear hR hP hQ hC HDX HDY
  go_wp2_with fail
  go_loopg [16, 17] C.length (fun g sv iv wx => ∃ i : Nat, i + g = C.length ∧ iv = .int .i64 i ∧ sv = .int .i64 (((C.take i).map fun p => p.2).sum) ∧ Hid (Below w8.heap.size w8 wx))
  case atStart => exact ⟨0, by omega, rfl, rfl, Lib.hid (Below.refl _ _)⟩
  case round =>
    obtain ⟨i, hi, rfl, rfl, HW⟩ := hrel
    cases gk with
    | zero =>
      obtain rfl : i = C.length := by omega
      rw [List.take_length, HALL.out]
      go_wp2_with fail
      refine (HA.out _).mono ?_
      rintro e w9 ⟨rfl, hb9⟩
      have HB9 := Lib.hid (keepC (keepC HBW8.out HW.out) hb9)
      clear hb9
      go_wp2_with fail
      go_ret
      exact ⟨rfl, HB9.out⟩
    | succ g =>
      obtain ⟨r, hr⟩ : ∃ r, C[i]? = some r := ⟨_, List.getElem?_eq_getElem (by omega)⟩
      have hrb0 := HAT3.out i r hr
      have hrb := four hrb0
      have HRW := Lib.hid hrb0.2.2.2.2
      clear hrb0
      have HST := Lib.hid (sum_take (fun p : Int × Int => p.2) hr)
      have hsb := sum_in (f := fun p : Int × Int => p.2) (M := 262144) (C.take i) (fun p hp => by
        obtain ⟨k, hk⟩ := List.mem_iff_getElem?.1 (List.mem_of_mem_take hp)
        have := HAT3.out k p hk
        omega)
      have hsb2 : ((C.take i).length : Int) * 262144 ≤ 121 * 262144 := Int.mul_le_mul_of_nonneg_right (by rw [List.length_take]; omega) (by decide)
      obtain ⟨S, hS⟩ : ∃ S, ((C.take i).map fun p => p.2).sum = S := ⟨_, rfl⟩
      rw [hS] at hsb HST ⊢
      have hSb : 0 ≤ S ∧ S ≤ 31719424 := by omega
      have hi1 : (i : Int) < (C.length : Int) := by omega
      have hi0 : (0 : Int) ≤ (i : Int) := by omega
      have HR := Lib.hid hr
      clear hS hsb hsb2 hr
      obtain ⟨t, wt⟩ := r
      simp only at hrb HST HRW
      go_wp2_with fail
      go_loopg [18, 19] P.length (fun g1 uv jv wx => ∃ j : Nat, j + g1 = P.length ∧ jv = .int .i64 j ∧ uv = .int .i64 (((P.take j).map fun p => (Q.map fun q => hitP t p q).sum).sum) ∧ Hid (Below w8.heap.size w8 wx))
      case atStart => exact ⟨0, by omega, rfl, rfl, HW⟩
      case round =>
        clear HW
        obtain ⟨j, hj, rfl, rfl, HW⟩ := hrel
        cases gk with
        | zero =>
          obtain rfl : j = P.length := by omega
          have HUW := Lib.hid (show ((P.take P.length).map fun p => (Q.map fun q => hitP t p q).sum).sum = wt by
            rw [List.take_length]
            exact (HCP.out t).trans HRW.out.symm)
          rw [HUW.out]
          obtain ⟨gc, hgc, xc, yc⟩ := HQ3c.out wr HW.out i (t, wt) HR.out
          subst hgc
          simp only at xc yc
          have hcl := HQ3c.out wr HW.out
          have HCL := Lib.hid hcl
          have HWT := Lib.hid (show waysF db t = wt from HRW.out.symm)
          have hn1 : (wt != wt) = false := by simp
          have hwt1 : ¬ wt < 1 := by omega
          have hwt2 : decide (wt < 1) = false := decide_eq_false hwt1
          clear hcl
          go_wp2_with fail
          refine (HWY.out _ t HW.out ⟨by omega, by omega⟩).mono ?_
          rintro e w9 ⟨rfl, hb9⟩
          rw [HWT.out]
          have HW9 := Lib.hid (keepC HW.out hb9)
          clear hb9 xc yc
          obtain ⟨gd, hgd, xd, yd⟩ := HQ3c.out w9 HW9.out i (t, wt) HR.out
          cases hgd
          simp only at xd yd
          cases i with
          | zero =>
            rw [show ((0 : Nat) : Int) = 0 from rfl]
            simp only [Nat.zero_mul, Nat.zero_add] at xd yd
            go_wp2_with fail
            go_quiet (fail)
            clear hn1 hwt2
            go_wp2_with fail
            go_roundg g
            case measure => omega
            case rel => exact ⟨1, by omega, rfl, by rw [HST.out], Lib.hid (Below.drewN_ HW9.out _)⟩
          | succ i =>
            obtain ⟨r0, hr0⟩ : ∃ r0, C[i]? = some r0 := ⟨_, List.getElem?_eq_getElem (by omega)⟩
            have hrise := HRISE.out i r0 _ hr0 HR.out
            obtain ⟨ge, hge, xe, ye⟩ := HQ3c.out w9 HW9.out i r0 hr0
            cases hge
            obtain ⟨t0, wt0⟩ := r0
            simp only at hrise xe
            have hle : ¬ t ≤ t0 := by omega
            have hle2 : decide (t ≤ t0) = false := decide_eq_false hle
            have hip : (0 : Int) < ((i + 1 : Nat) : Int) := by omega
            have hip2 : decide ((0 : Int) < ((i + 1 : Nat) : Int)) = true := decide_eq_true hip
            have hwi : IntKind.i64.wrap (((i + 1 : Nat) : Int) - 1) = (i : Int) := by rw [IntWalk.i64_in _ (by omega)]; omega
            have hil : (i : Int) < (C.length : Int) := by omega
            have hil0 : (0 : Int) ≤ (i : Int) := by omega
            clear hr0
            go_wp2_with fail
            go_quiet (fail)
            clear hn1 hwt2 hwi hip2 hle2
            go_wp2_with fail
            go_roundg g
            case measure => omega
            case rel => exact ⟨i + 1 + 1, by omega, by go_num, by rw [HST.out], Lib.hid (Below.drewN_ HW9.out _)⟩
        | succ g1 =>
          obtain ⟨p, hp⟩ : ∃ p, P[j]? = some p := ⟨_, List.getElem?_eq_getElem (by omega)⟩
          have hpb := four (HAT1.out j p hp)
          have HPM := Lib.hid (List.mem_of_getElem? hp)
          have HPT := Lib.hid (sum_take (fun p => (Q.map fun q => hitP t p q).sum) hp)
          have hub := sum_in (f := fun p => (Q.map fun q => hitP t p q).sum) (M := 61 * 68719476736) (P.take j) (fun p hp => by
            have h1 := sum_in (f := fun q => hitP t p q) (M := 68719476736) Q (fun q hq => HHIT.out t p q (List.mem_of_mem_take hp) hq)
            have h2 : (Q.length : Int) * 68719476736 ≤ 61 * 68719476736 := Int.mul_le_mul_of_nonneg_right (by omega) (by decide)
            exact ⟨h1.1, Int.le_trans h1.2 h2⟩)
          have hub2 : ((P.take j).length : Int) * (61 * 68719476736) ≤ 61 * (61 * 68719476736) := Int.mul_le_mul_of_nonneg_right (by rw [List.length_take]; omega) (by decide)
          obtain ⟨U, hU⟩ : ∃ U, ((P.take j).map fun p => (Q.map fun q => hitP t p q).sum).sum = U := ⟨_, rfl⟩
          rw [hU] at hub HPT ⊢
          have hUb : 0 ≤ U ∧ U ≤ 300000000000000 := by omega
          have hj1 : (j : Int) < (P.length : Int) := by omega
          have hj0 : (0 : Int) ≤ (j : Int) := by omega
          have HP := Lib.hid hp
          clear hU hub hub2 hp
          go_wp2_with fail
          go_loopg [18, 20] Q.length (fun g2 uv kv wx => ∃ k : Nat, k + g2 = Q.length ∧ kv = .int .i64 k ∧ uv = .int .i64 (U + ((Q.take k).map fun q => hitP t p q).sum) ∧ Hid (Below w8.heap.size w8 wx))
          case atStart => exact ⟨0, by omega, rfl, by simp, HW⟩
          case round =>
            clear HW
            obtain ⟨k, hk, rfl, rfl, HW⟩ := hrel
            cases gk with
            | zero =>
              obtain rfl : k = Q.length := by omega
              rw [List.take_length, ← HPT.out]
              go_wp2_with fail
              go_roundg g1
              case measure => omega
              case rel => exact ⟨j + 1, by omega, by go_num, rfl, HW⟩
            | succ g2 =>
              obtain ⟨q, hq⟩ : ∃ q, Q[k]? = some q := ⟨_, List.getElem?_eq_getElem (by omega)⟩
              have hqb := four (HAT2.out k q hq)
              have HQT := Lib.hid (sum_take (fun q => hitP t p q) hq)
              have hhit := HHIT.out t p q HPM.out (List.mem_of_getElem? hq)
              have hvb := sum_in (f := fun q => hitP t p q) (M := 68719476736) (Q.take k) (fun q hq => HHIT.out t p q HPM.out (List.mem_of_mem_take hq))
              have hvb2 : ((Q.take k).length : Int) * 68719476736 ≤ 61 * 68719476736 := Int.mul_le_mul_of_nonneg_right (by rw [List.length_take]; omega) (by decide)
              obtain ⟨V, hV⟩ : ∃ V, ((Q.take k).map fun q => hitP t p q).sum = V := ⟨_, rfl⟩
              rw [hV] at hvb HQT ⊢
              have hVb : 0 ≤ V ∧ V ≤ 5000000000000 := by omega
              obtain ⟨ga, hga, xa, ya⟩ := HQ1c.out wr HW.out j p HP.out
              obtain ⟨gb, hgb, xb, yb⟩ := HQ2c.out wr HW.out k q hq
              obtain ⟨gc, hgc, xc, yc⟩ := HQ3c.out wr HW.out i (t, wt) HR.out
              subst hga hgb hgc
              obtain ⟨p1, p2⟩ := p
              obtain ⟨q1, q2⟩ := q
              simp only at hpb hqb xa ya xb yb xc yc
              have hk1 : (k : Int) < (Q.length : Int) := by omega
              have hk0 : (0 : Int) ≤ (k : Int) := by omega
              have hw1 : IntKind.i64.wrap (p1 + q1) = p1 + q1 := IntWalk.i64_in _ (by omega)
              clear hV hvb hvb2 hq
              by_cases he : p1 + q1 = t
              · have HE := Lib.hid (show hitP t (p1, p2) (q1, q2) = p2 * q2 by unfold hitP; exact if_pos he)
                rw [HE.out] at hhit
                have hb1 : (p1 + q1 == t) = true := by rw [beq_iff_eq]; exact he
                have hw2 : IntKind.i64.wrap (p2 * q2) = p2 * q2 := IntWalk.i64_in _ (by omega)
                have hw3 : IntKind.i64.wrap (U + V + p2 * q2) = U + V + p2 * q2 := IntWalk.i64_in _ (by omega)
                clear he
                go_wp2_with fail
                go_quiet (fail)
                clear hw1 hb1
                go_wp2_with fail
                go_quiet (fail)
                clear hw2 hw3
                go_wp2_with fail
                go_roundg g2
                case measure => omega
                case rel => exact ⟨k + 1, by omega, by go_num, by rw [HQT.out, HE.out, Int.add_assoc], Lib.hid (Below.drewN_ HW.out _)⟩
              · have HE := Lib.hid (show hitP t (p1, p2) (q1, q2) = 0 by unfold hitP; exact if_neg he)
                have hb1 : (p1 + q1 == t) = false := by rw [beq_eq_false_iff_ne]; exact he
                clear he
                go_wp2_with fail
                go_quiet (fail)
                clear hw1 hb1
                go_wp2_with fail
                go_roundg g2
                case measure => omega
                case rel => exact ⟨k + 1, by omega, by go_num, by rw [HQT.out, HE.out, Int.add_zero], Lib.hid (Below.drewN_ HW.out _)⟩

set_option maxRecDepth 100000 in
theorem adds_row (os : Os) (started : os.Started) (H : Type) (enc : TypeId × Value → H) :
    ReturnsInHanded {} Try.checked os 13 .any (Rows.diceAddsSpec.pre6 enc Try.prog Try.f13 Rows.diceAddsRow.domain false) (Rows.diceAddsSpec.post enc Try.prog Try.f13 false true false false) := by
  refine returnsInHanded_of_change (C := Try.checked) ownNone started (by kernel_rfl) Try.func13
    (ChangeSpec.witness6 (enc := enc) (C := Try.checked) false ⟨#[], #[.slice none 0 0, .slice none 0 0], []⟩ 8 (by kernel_rfl) (by kernel_rfl) (by kernel_rfl) (by kernel_rfl)) ?_
  intro W base args ds gs before hval hW _ _
  have hW2 := hW
  obtain ⟨p, q, hA, hV, rfl, _, _⟩ := hW2
  have hA : DataW.TrodAll enc Try.prog W 0 (fun _ => true) true Try.f13.params.toList args.toList ds p := hA
  have hAk := hA
  have hval : ∀ (j : Nat) t v, Try.f13.params[j]? = some t → args[j]? = some v → Value.okWide Try.prog W .any base t v := hval
  rw [Try.params13] at hA hval
  obtain ⟨v0, vs0, d0, ds0, p0, q0, hargs, rfl, rfl, h0, r0⟩ := trodAll_cons hA
  obtain ⟨v1, vs1, d1, ds1, p1, q1, rfl, rfl, rfl, h1, r1⟩ := trodAll_cons r0
  obtain ⟨rfl, rfl, rfl⟩ := trodAll_nil r1
  obtain rfl : args = #[v0, v1] := by cases args; simp_all
  obtain ⟨rfl, rfl⟩ := trodVars_none hV
  obtain ⟨A0, z0, c0, rfl, _, m0, hr0, e0⟩ := open_dice (hval 0 22 v0 rfl rfl) h0
  obtain ⟨A1, z1, c1, rfl, _, m1, hr1, e1⟩ := open_dice (hval 1 22 v1 rfl rfl) h1
  clear hA hval
  simp only [List.append_nil] at hW hAk
  refine (adds_law A0 A1 z0 z1 c0 c1 W hr0 hr1 m0 m1 e0 e1).mono fun e W' ⟨he, hb⟩ => ?_
  subst he
  exact ⟨_, rfl, post_bool hW hb (by rw [Try.params13]; decide) hAk (fun _ => rfl) rfl rfl (by kernel_rfl)⟩

theorem adds_holds : Rows.DiceAddsSaid :=
  OpenClaim.holds_of_wide 13 Try.f13 rfl rfl rfl rfl rfl rfl rfl ⟨rfl, rfl, rfl, rfl, rfl⟩ rfl rfl rfl rfl rfl (by kernel_rfl) Try.func13 (by kernel_rfl)
    (of_decide_eq_true (by kernel_rfl)) (by unfold Func.isWrapper; first | (rw [if_pos (by decide +kernel)]; kernel_rfl) | (rw [if_neg (by decide +kernel)]; exact ⟨rfl, rfl⟩))
    (fun os started H enc _ => adds_row os started H enc)

#print axioms adds_holds
end Go.Proofs.Ytkkholagmjcgiaa
