/- For any lists of integers: the function DiceRises answers true: of dice made of them that share no side the numbers that Orders returns come to what Results returns; of two dice they are what Compare says; a die more that shows only 60 leaves the numbers that are not 0. No conditions. -/
import Derived.Test.YtkkholagmjcgiaaRisesL
import Derived.Test.YtkkholagmjcgiaaBeats2
import Derived.Test.YtkkholagmjcgiaaAddsB
import Derived.Test.YtkkholagmjcgiaaAwake
import Derived.Test.YtkkholagmjcgiaaOpen
namespace Go.Proofs.Ytkkholagmjcgiaa
open Go.ChangeShapes Go.WideShapes Go.ChangeAt Go.RowKit

theorem keepR {w W : World} {p q : Addr} {u v : Value} (h1 : w.cell? p = some u) (h2 : w.cell? q = some v) (hp : p.block < w.heap.size) (hq : q.block < w.heap.size) (hb : Below w.heap.size w W) :
    W.cell? p = some u ∧ W.cell? q = some v ∧ Below w.heap.size w W := ⟨(hb.cell hp).trans h1, (hb.cell hq).trans h2, hb⟩
/-- The block of slices of a literal of one die, and the die's block. -/
theorem built_at (w : World) (j : Nat) (u : Value) (h : [Value.slice (some ⟨w.heap.size, 0, none⟩) 1 1][j]? = some u) : ((w.alloc (Obj.cells #[Value.int .i64 60] 3)).alloc (Obj.cells #[Value.slice (some ⟨w.heap.size, 0, none⟩) 1 1] 36)).cell? ((⟨w.heap.size + 1, 0, none⟩ : Addr).add j) = some u := by
  have h2 := Box.new (w.alloc (Obj.cells #[Value.int .i64 60] 3)) 36 #[Value.slice (some ⟨w.heap.size, 0, none⟩) 1 1]
  have e : (w.alloc (Obj.cells #[Value.int .i64 60] 3)).heap.size = w.heap.size + 1 := by simp
  rw [e] at h2
  cases j with
  | zero =>
    rw [add_plain, Nat.zero_add, h2.cell 0]
    simpa using h
  | succ j => simp at h
theorem built_die {w w6 : World} {g : Option Nat} (hg : ((w.alloc (Obj.cells #[Value.int .i64 60] 3)).alloc (Obj.cells #[Value.slice (some ⟨w.heap.size, 0, none⟩) 1 1] 36)).grownBy w6 g) (hne : some w.heap.size ≠ g) : RDie w6 w6.heap.size (.slice (some ⟨w.heap.size, 0, none⟩) 1 1) [60] := by
  have h1 : Box w6 w.heap.size 3 #[Value.int .i64 60] := ((Box.new w 3 #[Value.int .i64 60]).alloc _).grown hg hne
  refine ⟨_, 1, rfl, Nat.le_refl _, fun j u hu => ⟨_, 0, rfl, h1.lt, ?_⟩⟩
  cases j with
  | zero =>
    rw [h1.cell]
    simpa using hu
  | succ j => simp at hu
theorem two_of {xs : List (List Int)} (h : xs.length = 2) : ∃ a b, xs = [a, b] := by
  match xs, h with
  | [a, b], _ => exact ⟨a, b, rfl⟩

set_option maxRecDepth 100000 in
set_option maxHeartbeats 8000000 in
theorem risen_law (A : Option Addr) (l : List (List Int)) (c : Nat) (w : World) (hr : RDice w w.heap.size A l) (hl : l.length ≤ 9223372036854775807) (hd : ∀ x ∈ l, x.length ≤ 9223372036854775807) :
    Calls Try.prog 17 #[.slice A l.length c] w fun e w' => e = .returned (.bool true) ∧ Below w.heap.size w w' := by
  have HS := Lib.hid (show Calls Try.prog 52 #[.slice A l.length c, .int .i64 3] w (GaveD w (apartL (someL l 3 (11 : Nat)))) from apart_any A l c 3 w hr hl hd (by decide) (by decide))
  have hdi : AreDice (someL l 3 (11 : Nat)) := someL_dice l (by decide) (by decide) (by decide)
  have h3 : (someL l 3 (11 : Nat)).length ≤ 3 := someL_many l (11 : Nat) (by decide)
  obtain ⟨hda, h60⟩ := apartL_dice hdi h3 (fun d h => someL_in l d h)
  have hap := apartL_apart (ds := someL l 3 (11 : Nat)) (by omega)
  have hal := apartL_len (someL l 3 (11 : Nat))
  obtain ⟨xs, hxs⟩ : ∃ xs, apartL (someL l 3 (11 : Nat)) = xs := ⟨_, rfl⟩
  rw [hxs] at HS hda h60 hap hal
  have h3 : xs.length ≤ 3 := by omega
  have h1 := hda.pos
  have HDI := Lib.hid hda
  have HAP := Lib.hid hap
  have H60 := Lib.hid h60
  have HCM := Lib.hid (common_not hap)
  obtain ⟨O, hO⟩ : ∃ O, numsL xs (ordersL xs.length) = O := ⟨_, rfl⟩
  have HO := Lib.hid hO
  have HOS := Lib.hid (show O.sum = (resL xs : Int) by rw [← hO, nums_sum hap h1 h3, res_roll h1 h3])
  have hOl : O.length ≤ 24 := by rw [← hO]; unfold numsL; rw [List.length_map]; exact orders_len h1 (by omega)
  have HOI := Lib.hid (show ∀ z ∈ O, 0 ≤ z ∧ z ≤ 262144 by rw [← hO]; exact nums_in hda _)
  have HA := Lib.hid awake_any
  clear hr hd hdi hda hap h60 hal hxs hO
  obtain ⟨N, hN⟩ : ∃ N, resL xs = N := ⟨_, rfl⟩
  have HN := Lib.hid hN
  rw [hN] at HOS
  clear hN
  go_enter Try.func17, Try.ntmps17
  go_wp2_with fail
  refine HS.out.mono ?_
  rintro e w1 ⟨v, G, K, rfl, hv, hb1⟩
  obtain ⟨Ax, cx, rfl, hcx, hrx⟩ := hv.reads
  have HB1 := Lib.hid hb1
  have HRX := Lib.hid (show ∀ W, Below w1.heap.size w1 W → RDice W W.heap.size Ax xs from fun W hb => (hrx.below hb).more hb.size)
  clear hv hb1 hrx HS hcx
  go_wp2_with fail
  refine (Orders_ok Ax xs cx w1 (HRX.out _ (Below.refl _ _)) HDI.out (by omega) HCM.out).mono ?_
  rintro e w2 ⟨v1, rfl, ho, hb2⟩
  rw [HO.out] at ho
  obtain ⟨Ao, co, rfl, hro⟩ := ho.reads
  have HB2 := Lib.hid hb2
  have HRO := Lib.hid hro
  clear ho hb2 hro
  go_wp2_with fail
  refine (Results_ok Ax xs cx _ w2 (HRX.out _ HB2.out) HDI.out).mono ?_
  rintro e w3 ⟨rfl, n, hw3⟩
  rw [HN.out]
  have HB23 := Lib.hid (show Below w2.heap.size w2 w3 by rw [hw3]; exact Below.drewN_ (Below.refl _ _) n)
  have HB3 := Lib.hid (keepC HB2.out HB23.out)
  clear hw3
  go_wp2_with fail
  go_loopg [8, 9] O.length (fun g s z wx => ∃ (k : Nat) (S : Int), k + g = O.length ∧ z = .int .i64 k ∧ s = .int .i64 S ∧ Hid ((O.take k).sum = S) ∧ w3 = wx)
  case atStart => exact ⟨0, 0, by omega, rfl, rfl, rfl, rfl⟩
  case round =>
    obtain ⟨k, S, hk, rfl, rfl, HSU, rfl⟩ := hrel
    have HSV := HSU
    clear HSU
    cases gk with
    | zero =>
      obtain rfl : k = O.length := by omega
      have hSN : S = (N : Int) := by rw [← HOS.out, ← HSV.out, List.take_length]
      subst hSN
      clear HSV
      go_upto_if 61 with fail
      go_cut [2] (fun v2 wx => v2 = .bool false ∧ Hid (Below w3.heap.size w3 wx))
      case first =>
        by_cases h2 : xs.length = 2
        · obtain ⟨a, b, hab⟩ := two_of h2
          have ho : O = [(lessL (rollL [a, b] []) : Int), (moreL (rollL [a, b] []) : Int)] := by rw [← HO.out, hab]; exact nums_two a b
          have hsn : sameL (rollL [a, b] []) = 0 := same_none (by rw [← hab]; exact HAP.out)
          have hda : IsDie a := HDI.out.die a (by rw [hab]; simp)
          have hdb : IsDie b := HDI.out.die b (by rw [hab]; simp)
          have hx1 : xs[0]? = some a := by rw [hab]; rfl
          have hx2 : xs[1]? = some b := by rw [hab]; rfl
          obtain ⟨bb, o, a1, c1, d1, hA, hbq, hy1, hc1, hcl1, hr1⟩ := (HRX.out _ HB3.out).at_ (k := 0) (by omega)
          subst hA
          obtain ⟨_, _, a2, c2, d2, hA, _, hy2, hc2, hcl2, hr2⟩ := (HRX.out _ HB3.out).at_ (k := 1) (by omega)
          cases hA
          obtain rfl : a = d1 := by rw [hx1] at hy1; exact Option.some.inj hy1
          obtain rfl : b = d2 := by rw [hx2] at hy2; exact Option.some.inj hy2
          obtain ⟨ml, hml⟩ : ∃ m, lessL (rollL [a, b] []) = m := ⟨_, rfl⟩
          obtain ⟨mm, hmm⟩ : ∃ m, moreL (rollL [a, b] []) = m := ⟨_, rfl⟩
          rw [hml, hmm] at ho
          have HCA := Lib.hid (fun (W : World) (hb : Below w3.heap.size w3 W) => Compare_ok a1 a2 a b c1 c2 W (RInts.tow hr1 (Nat.le_refl _) hb) (RInts.tow hr2 (Nat.le_refl _) hb) hcl1 hcl2 hda hdb)
          rw [hml, hmm, hsn] at HCA
          have HRW := Lib.hid (fun (W : World) (hb : Below w3.heap.size w3 W) => HRO.out W (keepC HB23.out hb))
          obtain ⟨g1, hg1, _⟩ := HRO.out w2 (Below.refl _ _) 0 (ml : Int) (by rw [ho]; rfl)
          subst hg1
          have HE0 := Lib.hid (show O[0]? = some (ml : Int) by rw [ho]; rfl)
          have HE1 := Lib.hid (show O[1]? = some (mm : Int) by rw [ho]; rfl)
          have hOl2 : O.length = 2 := by rw [ho]; rfl
          have HOL := Lib.hid hOl2
          have hxl2 : (1 : Int) < (xs.length : Int) := by omega
          have hxl3 : (0 : Int) < (xs.length : Int) := by omega
          have hol2 : (1 : Int) < (O.length : Int) := by omega
          have hol3 : (0 : Int) < (O.length : Int) := by omega
          have ht1 : ((xs.length : Int) == 2) = true := by rw [h2]; rfl
          have ht2 : ((O.length : Int) == 2) = true := by rw [hOl2]; rfl
          have ht3 : ((O.length : Int) != 2) = false := by rw [hOl2]; rfl
          have hc1 : w3.cell? ⟨bb, o, none⟩ = some (.slice a1 a.length c1) := hc1
          have hnx0 : 0 < xs.length := by omega
          have hnx1 : 1 < xs.length := by omega
          have hno0 : 0 < O.length := by omega
          have hno1 : 1 < O.length := by omega
          have HC1 := Lib.hid hc1
          have HC2 := Lib.hid hc2
          clear ho hsn hda hdb hx1 hx2 hy1 hy2 hcl1 hcl2 hr1 hr2 hml hmm hOl2 hab h2
          go_upto_region 14 with fail
          go_region_held3 (fun w' => w'.cell? ⟨bb, o, none⟩ = some (.slice a1 a.length c1) ∧ w'.cell? ⟨bb, o + 1, none⟩ = some (.slice a2 b.length c2) ∧ Below w3.heap.size w3 w') ((refine keepR HC1.out HC2.out hbq hbq ?_; first | exact Below.refl _ _ | exact (Below.refl _ _).drew | exact hb))
            ((go_at_call 33; refine (HCA.out _ ?_).mono ?_; (first | exact Below.refl _ _ | exact (Below.refl _ _).drew); rintro e w' ⟨rfl, hb⟩; obtain ⟨hcc, hff⟩ := bcell hb; replace hb := keepC (w := w3) (by first | exact Below.refl _ _ | exact (Below.refl _ _).drew) hb))
          all_goals
            clear hcc hff
            have HBB := Lib.hid hb
            obtain ⟨_, hh0, hc0⟩ := HRW.out w' hb 0 _ HE0.out
            cases hh0
            obtain ⟨_, hh0, hc9⟩ := HRW.out w' hb 1 _ HE1.out
            cases hh0
            clear hb
            go_wp2_with fail
            go_meet
            exact ⟨rfl, HBB.out⟩
        · have ht1 : ((xs.length : Int) == 2) = false := by rw [beq_eq_false_iff_ne]; omega
          go_wp2_with fail
          go_meet
          exact ⟨rfl, Below.refl _ _⟩
      case rest =>
        obtain ⟨rfl, HBC⟩ := hcut
        obtain ⟨w4, rfl⟩ : ∃ w4 : World, w4 = wc := ⟨_, rfl⟩
        have HB4 := Lib.hid (keepC HB3.out HBC.out)
        have HRO4 := Lib.hid (fun (W : World) (hb : Below w4.heap.size w4 W) => HRO.out W (keepC (keepC HB23.out HBC.out) hb))
        clear HRO HB23 HBC HB3 HB2
        obtain ⟨us1, hl1, hL1, hR1⟩ := HRX.out w4 HB4.out
        obtain ⟨bx, ox, _, hAx, hbx, _, _⟩ := hL1.at_ (k := 0) (by omega)
        subst hAx
        obtain ⟨i0, hi, hz0, hz1, hz2⟩ := info_parts Try.info36
        have HN1 := Lib.hid (show ∀ (j : Nat) (u : Value), us1[j]? = some u → w4.cell? ((⟨bx, ox, none⟩ : Addr).add j) = some u from fun j u hu => by
          obtain ⟨b', o', e', _, hc'⟩ := hL1 j u hu
          cases e'
          rw [add_plain]
          exact hc')
        have HU1 := Lib.hid (show ∀ u ∈ us1, u.oneCell' = true from fun u hu => by
          obtain ⟨i, hi⟩ := List.mem_iff_getElem?.1 hu
          have hlt := (List.getElem?_eq_some_iff.1 hi).1
          obtain ⟨_, _, e', _⟩ := hR1 i u _ hi (List.getElem?_eq_getElem (by omega))
          rw [e']
          rfl)
        have HNIL := Lib.hid (show w4.ownsRow w4.heap.size 36 1 (.slice none 0 0) 0 [] from ⟨by simp, .inl ⟨rfl, rfl⟩⟩)
        have HLL := Lib.hid hl1
        have HRR := Lib.hid hR1
        have hx1 : 0 + xs.length ≤ maxLen := by unfold maxLen; omega
        have hx2 : (0 + xs.length) * 24 ≤ 140737488355328 := by omega
        have hy1 : 0 + xs.length + 1 ≤ maxLen := by unfold maxLen; omega
        have hy2 : (0 + xs.length + 1) * 24 ≤ 140737488355328 := by omega
        clear hl1 hL1 hR1
        go_wp2_with (first
          | (at_builtin; (refine wpList_append_own_at _ rfl _ _ 22 rfl w4.heap.size 36 i0 (.slice none 0 0) 1 24 Try.underlying22 hi hz0 hz1 hz2 rfl (by decide) _ _ _ rfl HNIL.out ⟨bx, ox, none⟩ xs.length cx us1 rfl (by rw [HLL.out, Nat.mul_one]) HN1.out HU1.out hx1 hx2 (Nat.le_refl _) ?_; intro v5 w5 ht5 hg5 _ hat5; have HT5 := Lib.hid ht5; have HG5 := Lib.hid ((Below.refl w4.heap.size w4).grown hg5 (Nat.le_refl _) (fun k hk => by cases hk)); clear ht5 hg5 hat5))
          | (at_builtin; (refine wpList_append_own_at _ rfl _ _ 22 rfl w4.heap.size 36 i0 (.slice none 0 0) 1 24 Try.underlying22 hi hz0 hz1 hz2 rfl (by decide) _ _ _ rfl (World.ownsRow.alloc (World.ownsRow.alloc HT5.out _) _) ⟨w5.heap.size + 1, 0, none⟩ 1 1 [.slice (some ⟨w5.heap.size, 0, none⟩) 1 1] rfl rfl (built_at w5) (by simp [Value.oneCell']) hy1 hy2 (by have := HG5.out.size; simp; omega) ?_; intro v6 w6 ht6 hg6 _ hat6; have HT6 := Lib.hid ht6; have HGR := Lib.hid hg6; clear ht6 hg6 hat6)))
        have HG6 := Lib.hid ((((HG5.out.alloc HG5.out.size _).alloc (by have := HG5.out.size; simp; omega) _).grown HGR.out (by have := HG5.out.size; simp; omega) (fun k hk => (slices_blk HT5.out k hk).1)))
        have HD6 := Lib.hid (built_die HGR.out (fun e => by have := (slices_blk HT5.out _ e.symm).2.1; omega))
        obtain ⟨Ab, cb, e6, hrb⟩ := both_dice (w := w6) (dx := xs) (dy := [[60]]) (us1 := us1) (us2 := [.slice (some ⟨w5.heap.size, 0, none⟩) 1 1]) (by simpa using HT6.out) HLL.out rfl
          (fun i u d hu hd => ((HRR.out i u d hu hd).keep fun b o hlt => HG6.out.cell (p := ⟨b, o, none⟩) hlt).more HG6.out.size)
          (fun i u d hu hd => by
            cases i with
            | zero =>
              obtain rfl : _ = u := Option.some.inj hu
              obtain rfl : _ = d := Option.some.inj hd
              exact HD6.out
            | succ i => simp at hu) (Below.refl _ _)
        subst e6
        have HB6 := Lib.hid (keepC HB4.out HG6.out)
        have HRO6 := Lib.hid (fun (W : World) (hb : Below w6.heap.size w6 W) => HRO4.out W (keepC HG6.out hb))
        have hdm := more_dice HDI.out (by omega)
        have ham := more_apart HAP.out H60.out
        have hlm : (xs ++ [[60]]).length = xs.length + 1 := by simp
        have HMN := Lib.hid (more_nums H60.out h1 h3)
        obtain ⟨ys, hys⟩ : ∃ ys, xs ++ [[60]] = ys := ⟨_, rfl⟩
        rw [hys] at hrb hdm ham hlm HMN
        rw [hys]
        rw [← hlm, HO.out] at HMN
        have HDM := Lib.hid hdm
        have HCM2 := Lib.hid (common_not ham)
        obtain ⟨P, hP⟩ : ∃ P, numsL ys (ordersL ys.length) = P := ⟨_, rfl⟩
        rw [hP] at HMN
        have HP := Lib.hid hP
        have hPl : P.length ≤ 24 := by rw [← hP]; unfold numsL; rw [List.length_map]; exact orders_len (by omega) (by omega)
        have HPI := Lib.hid (show ∀ z ∈ P, 0 ≤ z ∧ z ≤ 262144 by rw [← hP]; exact nums_in hdm _)
        have HRB := Lib.hid hrb
        have hys4 : ys.length ≤ 4 := by omega
        clear hrb HT6 HT5 HLL HRR HG6 HG5 HU1 HN1 HNIL HB4 HRO4 hx1 hx2 hy1 hy2 HGR HD6 hdm ham hlm hys hP
        go_wp2_with fail
        refine (Orders_ok Ab ys cb w6 HRB.out HDM.out hys4 HCM2.out).mono ?_
        rintro e w7 ⟨v7, rfl, ho, hb7⟩
        rw [HP.out] at ho
        obtain ⟨Ap, cp, rfl, hrp⟩ := ho.reads
        have HB7 := Lib.hid (keepC HB6.out hb7)
        have HRP := Lib.hid hrp
        have HRO7 := Lib.hid (fun (W : World) (hb : Below w7.heap.size w7 W) => HRO6.out W (keepC hb7 hb))
        clear ho hb7 hrp HRO6 HB6
        go_wp2_with fail
        go_loopg [17, 18, 19] P.length (fun g s m z wx => ∃ (k : Nat) (F : Int) (M : Nat), k + g = P.length ∧ z = .int .i64 k ∧ s = .int .i64 F ∧ m = .int .i64 M ∧ Hid (posS P k = F) ∧ Hid (posN P k = M) ∧ w7 = wx)
        case atStart => exact ⟨0, 0, 0, by omega, rfl, rfl, rfl, rfl, rfl, rfl⟩
        case round =>
          obtain ⟨k, F, M, hk, rfl, rfl, rfl, HF1, HM1, rfl⟩ := hrel
          have HF := HF1
          have HM := HM1
          clear HF1 HM1
          cases gk with
          | zero =>
            obtain rfl : k = P.length := by omega
            have hFN : F = (N : Int) := by
              rw [← HF.out, ← HOS.out]
              unfold posS
              rw [List.take_length, HMN.out]
              exact pos_sum O fun z hz => (HOI.out z hz).1
            have HMO := Lib.hid (show posN O O.length = M by
              rw [← HM.out]
              unfold posN
              rw [List.take_length, List.take_length, HMN.out])
            subst hFN
            clear HF HM
            go_wp2_with fail
            go_loopg [20, 21] O.length (fun g m z wx => ∃ (k : Nat) (H : Nat), k + g = O.length ∧ z = .int .i64 k ∧ m = .int .i64 H ∧ Hid (posN O k = H) ∧ w7 = wx)
            case atStart => exact ⟨0, 0, by omega, rfl, rfl, rfl, rfl⟩
            case round =>
              obtain ⟨k, H, hk, rfl, rfl, HH1, rfl⟩ := hrel
              have HH := HH1
              clear HH1
              cases gk with
              | zero =>
                obtain rfl : k = O.length := by omega
                obtain rfl : H = M := by rw [← HH.out, ← HMO.out]
                clear HH HMO
                go_wp2_with fail
                refine (HA.out _).mono ?_
                rintro e w9 ⟨rfl, hb9⟩
                have HB9 := Lib.hid (keepC HB1.out (keepC HB7.out hb9))
                clear hb9
                go_wp2_with fail
                go_ret
                exact ⟨rfl, HB9.out⟩
              | succ g =>
                have hkl : k < O.length := by omega
                have hkl1 : (k : Int) < (O.length : Int) := by omega
                obtain ⟨z, hz⟩ : ∃ z, O[k]? = some z := ⟨_, List.getElem?_eq_getElem hkl⟩
                obtain ⟨g1, rfl, hcz⟩ := HRO7.out _ (Below.refl _ _) k z hz
                have hlb := List.length_filter_le (fun x => decide (0 < x)) (O.take k)
                have hsM : ((O.take k).filter fun x => decide (0 < x)).length = H := HH.out
                rw [hsM, List.length_take] at hlb
                have hM24 : H ≤ 24 := by omega
                have HST := Lib.hid (pos_step hz).2
                rw [HH.out] at HST
                clear hz hlb hsM
                by_cases hzp : 0 < z
                · have hzd : decide (0 < z) = true := decide_eq_true hzp
                  rw [if_pos hzp] at HST
                  go_wp2_with fail
                  go_roundg g
                  case measure => omega
                  case rel => exact ⟨k + 1, H + 1, by omega, by go_num, by go_num, HST, rfl⟩
                · have hzd : decide (0 < z) = false := decide_eq_false hzp
                  rw [if_neg hzp] at HST
                  go_wp2_with fail
                  go_roundg g
                  case measure => omega
                  case rel => exact ⟨k + 1, H, by omega, by go_num, rfl, HST, rfl⟩
          | succ g =>
            have hkl : k < P.length := by omega
            have hkl1 : (k : Int) < (P.length : Int) := by omega
            have hk30 : (k : Int) < 30 := by omega
            obtain ⟨z, hz⟩ : ∃ z, P[k]? = some z := ⟨_, List.getElem?_eq_getElem hkl⟩
            obtain ⟨g1, rfl, hcz⟩ := HRP.out _ (Below.refl _ _) k z hz
            have hzb := HPI.out z (List.mem_of_getElem? hz)
            have hsb := tot_in (by decide : (0 : Int) ≤ 262144) ((P.take k).filter fun x => decide (0 < x)) fun x hx => HPI.out x (List.mem_of_mem_take (List.mem_filter.1 hx).1)
            have hlb := List.length_filter_le (fun x => decide (0 < x)) (P.take k)
            have hsF : ((P.take k).filter fun x => decide (0 < x)).sum = F := HF.out
            have hsM : ((P.take k).filter fun x => decide (0 < x)).length = M := HM.out
            rw [hsF, hsM] at hsb
            rw [hsM, List.length_take] at hlb
            have hs0 := hsb.1
            have hM24 : M ≤ 24 := by omega
            have hs1 : F ≤ 100000000 := by
              have := hsb.2
              omega
            have hz0 := hzb.1
            have hz1 := hzb.2
            have HST := Lib.hid (pos_step hz)
            rw [HF.out, HM.out] at HST
            clear hz hzb hsb hlb hsF hsM
            by_cases hzp : 0 < z
            · have hzd : decide (0 < z) = true := decide_eq_true hzp
              rw [if_pos hzp, if_pos hzp] at HST
              go_wp2_with fail
              go_roundg g
              case measure => omega
              case rel => exact ⟨k + 1, F + z, M + 1, by omega, by go_num, by go_num, by go_num, HST.out.1, HST.out.2, rfl⟩
            · have hzd : decide (0 < z) = false := decide_eq_false hzp
              rw [if_neg hzp, if_neg hzp] at HST
              go_wp2_with fail
              go_roundg g
              case measure => omega
              case rel => exact ⟨k + 1, F, M, by omega, by go_num, rfl, rfl, HST.out.1, HST.out.2, rfl⟩
    | succ g =>
      have hkl : k < O.length := by omega
      have hkl1 : (k : Int) < (O.length : Int) := by omega
      have hk30 : (k : Int) < 30 := by omega
      obtain ⟨z, hz⟩ : ∃ z, O[k]? = some z := ⟨_, List.getElem?_eq_getElem hkl⟩
      obtain ⟨g1, rfl, hcz⟩ := HRO.out _ HB23.out k z hz
      have hzb := HOI.out z (List.mem_of_getElem? hz)
      have hsb := tot_in (by decide : (0 : Int) ≤ 262144) (O.take k) fun x hx => HOI.out x (List.mem_of_mem_take hx)
      rw [HSV.out] at hsb
      have hs0 := hsb.1
      have hs1 : S ≤ 100000000 := by
        have := hsb.2
        have e : ((O.take k).length : Int) ≤ 24 := by simp; omega
        omega
      have hz0 := hzb.1
      have hz1 := hzb.2
      have HST := Lib.hid (show (O.take (k + 1)).sum = S + z by rw [take_sum hz, HSV.out])
      clear hz hzb hsb
      go_wp2_with fail
      go_roundg g
      case measure => omega
      case rel => exact ⟨k + 1, S + z, by omega, by go_num, by go_num, HST, rfl⟩

set_option maxRecDepth 100000 in
theorem risen_row (os : Os) (started : os.Started) (H : Type) (enc : TypeId × Value → H) :
    ReturnsInHanded {} Try.checked os 17 .any (Rows.diceRisesSpec.pre6 enc Try.prog Try.f17 Rows.diceRisesRow.domain false) (Rows.diceRisesSpec.post enc Try.prog Try.f17 false true false false) := by
  refine returnsInHanded_of_change (C := Try.checked) ownNone started (by kernel_rfl) Try.func17
    (ChangeSpec.witness6 (enc := enc) (C := Try.checked) false ⟨#[], #[.slice none 0 0], []⟩ 8 (by kernel_rfl) (by kernel_rfl) (by kernel_rfl) (by kernel_rfl)) ?_
  intro W base args ds gs before hval hW _ _
  have hW2 := hW
  obtain ⟨p, q, hA, hV, rfl, _, _⟩ := hW2
  have hA : DataW.TrodAll enc Try.prog W 0 (fun _ => true) true Try.f17.params.toList args.toList ds p := hA
  have hAk := hA
  have hval : ∀ (j : Nat) t v, Try.f17.params[j]? = some t → args[j]? = some v → Value.okWide Try.prog W .any base t v := hval
  rw [Try.params17] at hA hval
  obtain ⟨v0, vs0, d0, ds0, p0, q0, hargs, rfl, rfl, h0, r0⟩ := trodAll_cons hA
  obtain ⟨rfl, rfl, rfl⟩ := trodAll_nil r0
  obtain rfl : args = #[v0] := by cases args; simp_all
  obtain ⟨rfl, rfl⟩ := trodVars_none hV
  obtain ⟨A0, z0, c0, rfl, _, m0, hr0, e0⟩ := open_dice (hval 0 22 v0 rfl rfl) h0
  clear hA hval
  simp only [List.append_nil] at hW hAk
  refine (risen_law A0 z0 c0 W hr0 m0 e0).mono fun e W' ⟨he, hb⟩ => ?_
  subst he
  exact ⟨_, rfl, post_bool hW hb (by rw [Try.params17]; decide) hAk (fun _ => rfl) rfl rfl (by kernel_rfl)⟩

theorem risen_holds : Rows.DiceRisesSaid :=
  OpenClaim.holds_of_wide 17 Try.f17 rfl rfl rfl rfl rfl rfl rfl ⟨rfl, rfl, rfl, rfl, rfl⟩ rfl rfl rfl rfl rfl (by kernel_rfl) Try.func17 (by kernel_rfl)
    (of_decide_eq_true (by kernel_rfl)) (by unfold Func.isWrapper; first | (rw [if_pos (by decide +kernel)]; kernel_rfl) | (rw [if_neg (by decide +kernel)]; exact ⟨rfl, rfl⟩))
    (fun os started H enc _ => risen_row os started H enc)

#print axioms risen_holds
end Go.Proofs.Ytkkholagmjcgiaa
