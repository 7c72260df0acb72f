/- For every integer n, list of triples of integers l and triple of integers of: the function PegMixed answers true: two rules mixed are a rule, positions are alike just if all rules of the basis say so, and a jump keeps that. No conditions. -/
import Derived.Test.YthbhengcinkepaaOpenS
import Derived.Test.YthbhengcinkepaaPg20
import Derived.Test.YthbhengcinkepaaTameT
import Derived.Test.YthbhengcinkepaaRAlike2
import Derived.Test.YthbhengcinkepaaMixL
import Derived.Test.YthbhengcinkepaaJmp
import Derived.Test.YthbhengcinkepaaPlays
namespace Go.Proofs.Ythbhengcinkepaa
open Go.ChangeShapes Go.WideShapes Go.ChangeAt Go.RowKit Go.WideMaps Lamp

theorem wrap_pow {P : Nat} (h : P ≤ 65536) : IntKind.i64.wrap (P : Int) = (P : Int) := IntWalk.i64_in _ (by omega)

set_option maxRecDepth 100000 in
set_option maxHeartbeats 8000000 in
theorem pmixed_any (a0 : Int) (A : Option Addr) (l : List Tri) (c : Nat) (x y z : Int) (w : World) (hr : RTri w w.heap.size A l) (hl : l.length ≤ 9223372036854775807) :
    Calls Try.prog 13 #[.int .i64 a0, .slice A l.length c, .agg #[.int .i64 x, .int .i64 y, .int .i64 z]] w fun e w' => e = .returned (.bool true) ∧ Below w.heap.size w w' := by
  have hm := remN_lt a0 (m := 16) (by decide)
  obtain ⟨n, hn⟩ : ∃ n, 1 + remN a0 16 = n := ⟨_, rfl⟩
  have hn1 : 1 ≤ n := by omega
  have hn16 : n ≤ 16 := by omega
  have hb0 := Box.new w 30 #[.int .i64 x, .int .i64 y, .int .i64 z]
  have hB0 := below_alloc (w := w) (Nat.le_refl _) (Obj.cells #[.int .i64 x, .int .i64 y, .int .i64 z] 30)
  have hr0 := hr.up hB0
  have HT := Lib.hid (fun (w1 : World) (h : RTri w1 w1.heap.size A l) => tameT_any A a0 l c 16 20 w1 h hl (by decide) (by decide) (by decide))
  rw [hn] at HT
  have hpw := pow_split hn16
  have hp0 := Nat.two_pow_pos n
  have hpi : (2 : Int) ^ n = ((2 ^ n : Nat) : Int) := by simp
  have hr1 := rem_i64 x hp0 hpw
  have hr2 := rem_i64 y hp0 hpw
  have hl1 := remN_lt x hp0
  have hl2 := remN_lt y hp0
  obtain ⟨p, hp⟩ : ∃ p, remN x (2 ^ n) = p := ⟨_, rfl⟩
  obtain ⟨q, hq⟩ : ∃ q, remN y (2 ^ n) = q := ⟨_, rfl⟩
  rw [hp] at hr1 hl1
  rw [hq] at hr2 hl2
  have HP := Lib.hid hl1
  have HQ := Lib.hid hl2
  obtain ⟨P, hP⟩ : ∃ P, 2 ^ n = P := ⟨_, rfl⟩
  have HPN := Lib.hid hP
  have hP2 : (2 : Int) ^ n = (P : Int) := by rw [hpi, hP]
  rw [hP] at hpw hp0 hpi hr1 hr2
  have hPw : IntKind.u64.wrap (P : Int) = (P : Int) := u64_in (by omega) (by omega)
  have hP0 : ((P : Int) = 0) = False := by simp; omega
  have hwP2 : wrap64 (P : Int) = (P : Int) := w64 (by omega)
  have hwP3 := wrap_pow hpw
  have HR0 := Lib.hid hr0
  have HBX0 := Lib.hid hb0
  have HB0 := Lib.hid hB0
  have hn16i : (n : Int) ≤ 16 := by omega
  clear hr hl hm hn hp hq hP hl1 hl2 hr0 hb0 hB0
  go_enter Try.func13, Try.ntmps13
  go_wp2_with fail
  refine (HT.out _ HR0.out).mono ?_
  rintro e w1 ⟨v1, rfl, L, hc, hLK, ho, hb⟩
  obtain ⟨A1, c1, rfl, hrd⟩ := ho.reads
  have HC := Lib.hid hc
  have HB1 := Lib.hid (HB0.out.trans (hb.mono HB0.out.size))
  have HR1 := Lib.hid hrd
  have hbx := HBX0.out.below hb HBX0.out.lt
  have x0 := hbx.cell 0
  have x1 := hbx.cell 1
  simp only [List.getElem?_toArray, List.getElem?_cons_zero, List.getElem?_cons_succ] at x0 x1
  have HBX1 := Lib.hid hbx
  clear hc hb hrd hbx ho HT HR0 HBX0
  go_wp2_with fail
  go_quiet (fail)
  have HC2 := Lib.hid (show Below w.heap.size w (w1.drewN nq) from below_drewN HB1.out nq)
  have HR2 := Lib.hid (show RTri (w1.drewN nq) (w1.drewN nq).heap.size A1 L from HR1.out.drewN nq)
  have HBX2 := Lib.hid (show Box (w1.drewN nq) w.heap.size 30 #[.int .i64 x, .int .i64 y, .int .i64 z] from HBX1.out)
  obtain ⟨w2, hw2⟩ : ∃ w2, w1.drewN nq = w2 := ⟨_, rfl⟩
  rw [hw2] at HC2 HR2 HBX2 ⊢
  clear hw2 x0 x1 HB1 HR1 hr1 hr2 HBX1
  go_wp2_with fail
  refine (Rules_ok A1 c1 n L w2 HR2.out HC.out).mono ?_
  rintro e w3 ⟨v3, rfl, ho3, hb3⟩
  obtain ⟨hn1', _, hlL, hg⟩ := checkT_zero HC.out
  have hlin := goodT_ok hg
  have hE : ∀ i, (eqsL L).getD i 0 < 2 ^ n := eqsL_lt hlin
  have hRn : (rulesL n (eqsL L)).length ≤ n := basisK_len _ _ _
  have HRI := Lib.hid (fun x (h : x ∈ rulesL n (eqsL L)) => rulesL_in hn16 hE h)
  have HLS := Lib.hid (fun i a b (h1 : (rulesL n (eqsL L))[i]? = some a) (h2 : (rulesL n (eqsL L))[i + 1]? = some b) => rulesL_less hE h1 h2)
  have HSA := Lib.hid (sameK_all (n := n) (l := L) (d := p ^^^ q))
  have HRU := Lib.hid (fun (w1 : World) (x : Nat) (h : RTri w1 w1.heap.size A1 L) (hx : x < 65536) => RRule_any A1 c1 n x L w1 h (by omega) hn16 hlin hx)
  have HALK := Lib.hid (fun (w8 : World) (h : RTri w8 w8.heap.size A1 L) => Alike_ok A1 c1 n p q L w8 h HC.out HP.out HQ.out)
  have HALJ := Lib.hid (fun (w8 : World) (r : Nat) (h : RTri w8 w8.heap.size A1 L) (hr : r < 2 ^ n) => Alike_ok A1 c1 n p r L w8 h HC.out HP.out hr)
  have HJA := Lib.hid (fun j (h : j ∈ jumpsL L) => jump_alike hn16 hlin h p)
  have HJOK := Lib.hid (jumpsL_ok hlin)
  have HJO := Lib.hid (fun (w8 : World) (h : RTri w8 w8.heap.size A1 L) => Jumps_ok A1 c1 n p L w8 h HC.out HP.out)
  have HPL := Lib.hid (fun (w8 : World) (Ag : Option Addr) (g : List Tri) (cg : Nat) (h : RTri w8 w8.heap.size A1 L) (h2 : RTri w8 w8.heap.size Ag g) (hl2 : g.length ≤ 1000000) => Play_any A1 Ag c1 cg n p L g w8 h h2 HC.out HP.out hl2)
  have HJL := Lib.hid (show (jumpsL L).length ≤ 80 by rw [jumpsL_len]; omega)
  have HXR := Lib.hid (fun x y (h1 : isRule (eqsL L) x = true) (h2 : isRule (eqsL L) y = true) => isRule_xor h1 h2)
  have HX0 := Lib.hid (isRule_0 (eqsL L))
  obtain ⟨E, hEE⟩ : ∃ E, eqsL L = E := ⟨_, rfl⟩
  rw [hEE] at ho3 hRn HRI HLS HSA HRU HXR HX0
  obtain ⟨R, hR⟩ : ∃ R, rulesL n E = R := ⟨_, rfl⟩
  rw [hR] at ho3 hRn HRI HLS HSA
  obtain ⟨d, hd⟩ : ∃ d, p ^^^ q = d := ⟨_, rfl⟩
  rw [hd] at HALK HSA
  have HDE := Lib.hid hd
  obtain ⟨al, hal⟩ : ∃ al, alikeB n L d = al := ⟨_, rfl⟩
  rw [hal] at HALK HSA
  obtain ⟨A3, c3, rfl, hr3⟩ := ho3.reads
  rw [natV_len]
  have HV3 := Lib.hid hr3
  have HB3 := Lib.hid (HC2.out.trans (hb3.mono HC2.out.size))
  have HR3 := Lib.hid (HR2.out.up hb3)
  have HBX3 := Lib.hid (HBX2.out.below hb3 HBX2.out.lt)
  clear ho3 hr3 hb3 HC2 HR2 hR hg hlin hE hEE hd hal HBX2
  go_wp2_with fail
  refine (HALK.out w3 HR3.out).mono ?_
  rintro e w4 ⟨rfl, hb4⟩
  have HB4 := Lib.hid (HB3.out.trans (hb4.mono HB3.out.size))
  have HR4 := Lib.hid (HR3.out.up hb4)
  have HV4 := Lib.hid ((HV3.out.below hb4).more hb4.size)
  have HBX4 := Lib.hid (HBX3.out.below hb4 HBX3.out.lt)
  have hRni : ¬ (n : Int) < (R.length : Int) := by omega
  have hRnn : ¬ n < R.length := by omega
  clear hb4 HB3 HR3 HV3 HBX3 HALK
  go_wp2_with fail
  go_loopg [14, 15, 16] R.length (fun g wv mv iv ws => ∃ (k mix : Nat), k + g = R.length ∧ wv = .bool (sameK R d k) ∧ mv = .int .i64 mix ∧ iv = .int .i64 k ∧ Hid (mix < 65536 ∧ isRule E mix = true) ∧ Hid (Below w4.heap.size w4 ws))
  case atStart => exact ⟨0, 0, by omega, rfl, rfl, rfl, Lib.hid ⟨by decide, HX0.out⟩, Lib.hid (Below.refl _ _)⟩
  case round =>
    obtain ⟨k, mix, hk, rfl, rfl, rfl, HM1, HBB1⟩ := hrel
    have HM := HM1
    have HBB := HBB1
    clear HM1 HBB1
    have HRW := Lib.hid (HR4.out.up HBB.out)
    cases gk with
    | zero =>
      obtain rfl : k = R.length := by omega
      have hge : ¬ (R.length : Int) < (R.length : Int) := by omega
      have hgd : decide ((R.length : Int) < (R.length : Int)) = false := decide_eq_false hge
      have HRM := Lib.hid (HRU.out wr mix HRW.out HM.out.1)
      rw [HM.out.2] at HRM
      rw [HSA.out]
      have hall : (al != al) = false := by simp
      have HBW := Lib.hid (HB4.out.trans (HBB.out.mono HB4.out.size))
      go_wp2_with fail
      refine HRM.out.mono ?_
      rintro e w5 ⟨rfl, hb5⟩
      have HB5 := Lib.hid (HBW.out.trans (hb5.mono HBW.out.size))
      have HR5 := Lib.hid (HRW.out.up hb5)
      clear hb5 HRM HBW HRW HBB
      go_wp2_with fail
      refine (HJO.out w5 HR5.out).mono ?_
      rintro e w6 ⟨v6, rfl, ho6, hb6⟩
      have hF80 : ((jumpsL L).filter fun j => canJ j p).length ≤ 80 := by
        have h1 := List.length_filter_le (fun j => canJ j p) (jumpsL L)
        have h2 := HJL.out
        omega
      have HFI := Lib.hid (show ∀ j ∈ (jumpsL L).filter (fun j => canJ j p), j ∈ jumpsL L ∧ canJ j p = true from fun j hj => List.mem_filter.1 hj)
      obtain ⟨F, hF⟩ : ∃ F, ((jumpsL L).filter fun j => canJ j p) = F := ⟨_, rfl⟩
      rw [hF] at ho6 hF80 HFI
      obtain ⟨A6, c6, rfl, hc6, hr6, hbl6⟩ := ho6.caps
      have HF6 := Lib.hid hr6
      have HBL6 := Lib.hid hbl6
      have HB6 := Lib.hid (HB5.out.trans (hb6.mono HB5.out.size))
      have HR6 := Lib.hid (HR5.out.up hb6)
      clear ho6 hr6 hbl6 hb6 HB5 HR5 hF
      go_wp2_with fail
      go_loopg [19] F.length (fun g iv ws => ∃ k : Nat, k + g = F.length ∧ iv = .int .i64 k ∧ Hid (Below w6.heap.size w6 ws))
      case atStart => exact ⟨0, by omega, rfl, Lib.hid (Below.refl _ _)⟩
      case round =>
        obtain ⟨k, hk, rfl, HBF1⟩ := hrel
        have HBF := HBF1
        clear HBF1
        have HRF := Lib.hid (HR6.out.up HBF.out)
        have HBFW := Lib.hid (HB6.out.trans (HBF.out.mono HB6.out.size))
        cases gk with
        | zero =>
          obtain rfl : k = F.length := by omega
          have hge : ¬ (F.length : Int) < (F.length : Int) := by omega
          have hgd : decide ((F.length : Int) < (F.length : Int)) = false := decide_eq_false hge
          go_wp2_with fail
          refine (awake2_any _).mono ?_
          rintro e w8 ⟨rfl, hb8⟩
          have HB8 := Lib.hid (HBFW.out.trans (hb8.mono HBFW.out.size))
          go_wp2_with fail
          go_ret
          exact ⟨rfl, HB8.out⟩
        | succ g =>
          have hkl : k < F.length := by omega
          have hkl' : (k : Int) < (F.length : Int) := by omega
          have hkc : (k : Int) + 1 ≤ (c6 : Int) := by omega
          have hkc2 : (k : Int) ≤ (c6 : Int) := by omega
          have hk0 : (0 : Int) ≤ (k : Int) := by omega
          have hk1 : (k : Int) ≤ (k : Int) + 1 := by omega
          have hne : (c6 = k) = False := eq_false (by omega)
          obtain ⟨b, o, j1, j2, j3, hA, hb, hj, -, -, -⟩ := HF6.out.at_ hkl
          subst hA
          obtain ⟨hjJ, hjc⟩ := HFI.out _ (List.mem_of_getElem? hj)
          obtain ⟨_, _, ho0, _⟩ := HBL6.out b o rfl
          subst ho0
          have HG1 := Lib.hid (show RTri wr wr.heap.size (some ⟨b, k * 3, none⟩) [(j1, j2, j3)] from by
            have h1 := ((HF6.out.up HBF.out).drop k).take 1
            rw [Nat.zero_add, List.drop_eq_getElem_cons hkl, List.take_succ_cons, List.take_zero] at h1
            have h3 := List.getElem?_eq_some_iff.1 hj
            rw [h3.2] at h1
            exact h1)
          have HPP := Lib.hid (show playL (jumpsL L) p [(j1, j2, j3)] = some (fromJ (j1, j2, j3) p) from (playL_game _ _ _).2 (.cons hjJ hjc (.nil _)))
          have hfl : fromJ (j1, j2, j3) p < 2 ^ n := Nat.xor_lt_two_pow HP.out (holesM_lt (HJOK.out _ hjJ))
          have HJT := Lib.hid (HJA.out _ hjJ)
          obtain ⟨r, hr⟩ : ∃ r, fromJ (j1, j2, j3) p = r := ⟨_, rfl⟩
          rw [hr] at HPP hfl HJT
          have HFL := Lib.hid hfl
          clear hj hjJ hjc hr hfl
          go_wp2_with fail
          refine (HPL.out wr (some ⟨b, k * 3, none⟩) [(j1, j2, j3)] (c6 - k) HRF.out HG1.out (by simp)).mono ?_
          rintro e w7 ⟨rfl, hb7⟩
          rw [HPP.out]
          simp only [playV]
          have HB7 := Lib.hid (HBF.out.trans (hb7.mono HBF.out.size))
          have HR7 := Lib.hid (HRF.out.up hb7)
          clear hb7
          go_wp2_with fail
          refine (HALJ.out w7 r HR7.out HFL.out).mono ?_
          rintro e w8 ⟨rfl, hb8⟩
          rw [HJT.out]
          have HB8 := Lib.hid (HB7.out.trans (hb8.mono HB7.out.size))
          clear hb8
          go_wp2_with fail
          go_roundg g
          case measure => omega
          case rel => exact ⟨k + 1, by omega, by go_num, HB8⟩
    | succ g =>
      have hkl : k < R.length := by omega
      have hkl' : (k : Int) < (R.length : Int) := by omega
      obtain ⟨b, o, rz, hA, hb, hz, hc⟩ := ((HV4.out.below HBB.out).more HBB.out.size).at_ (k := k) (by rw [natV_len]; exact hkl)
      obtain ⟨rk, hrk⟩ : ∃ rk, R[k]? = some rk := ⟨_, List.getElem?_eq_getElem hkl⟩
      obtain rfl : rz = ((rk : Nat) : Int) := by
        have h := (natV_at hz).1
        rw [List.getD_eq_getElem?_getD, hrk] at h
        exact h
      subst hA
      obtain ⟨hrk0, hrkP, hrkR⟩ := HRI.out rk (List.mem_of_getElem? hrk)
      rw [HPN.out] at hrkP
      have hrk16 : rk < 65536 := by omega
      have h1 : ¬ (rk : Int) < 1 := by omega
      have h2 : ¬ (P : Int) ≤ (rk : Int) := by omega
      have h1d : decide ((rk : Int) < 1) = false := decide_eq_false h1
      have h2d : decide ((P : Int) ≤ (rk : Int)) = false := decide_eq_false h2
      have HRX := Lib.hid (HRU.out (wr.drewN 1) rk (show RTri (wr.drewN 1) (wr.drewN 1).heap.size A1 L from HRW.out.drewN 1) hrk16)
      rw [hrkR] at HRX
      have HRKR := Lib.hid hrkR
      have HRK := Lib.hid hrk
      have HBL := Lib.hid hb
      go_upto_region 12 with fail
      go_cut [114] (fun v114 wx => v114 = .bool false ∧ Hid (Below wr.heap.size wr wx))
      case first =>
        obtain ⟨k1, hk1⟩ : ∃ k1, k - 1 = k1 := ⟨_, rfl⟩
        have hk1l : k1 < R.length := by omega
        obtain ⟨b', o', rz', hA', hb', hz', hc'⟩ := ((HV4.out.below HBB.out).more HBB.out.size).at_ (k := k1) (by rw [natV_len]; omega)
        cases hA'
        obtain ⟨rj, hrj⟩ : ∃ rj, R[k1]? = some rj := ⟨_, List.getElem?_eq_getElem hk1l⟩
        obtain rfl : rz' = ((rj : Nat) : Int) := by
          have h := (natV_at hz').1
          rw [List.getD_eq_getElem?_getD, hrj] at h
          exact h
        have HK1 := Lib.hid hk1
        have HRJK := Lib.hid hrj
        clear hk1 hrj hz hz' hrk0 hrkP hrk
        refine wp_region_held_drew (S := fun w' => w'.cell? ⟨b, o + k, none⟩ = some (.int .i64 rk) ∧ w'.cell? ⟨b, o + k1, none⟩ = some (.int .i64 rj)) (by kernel_rfl) ⟨hc, hc'⟩ (fun hHeld => ?_)
        refine wpAnyH_take (i := 0) (v := ?_) rfl (by kernel_rfl) (by kernel_rfl) (by kernel_rfl) (fun _ _ _ h => h) (Or.inl ⟨by rfl, ?_⟩) (by assumption) ?_
        rotate_left
        · (intro w hSw; (try dsimp only at hSw); go_simp <;> (with_reducible rfl))
        try simp only [Act.put, List.setIfInBounds_toArray, List.set_cons_zero, List.set_cons_succ, List.getElem_toArray, List.getElem_cons_zero]
        refine wpAnyH_take (i := 1) (v := ?_) rfl (by kernel_rfl) (by kernel_rfl) (by kernel_rfl) (fun _ _ _ h => h) (Or.inl ⟨by rfl, ?_⟩) (by assumption) ?_
        rotate_left
        · (intro w hSw; (try dsimp only at hSw); go_simp <;> (with_reducible rfl))
        try simp only [Act.put, List.setIfInBounds_toArray, List.set_cons_zero, List.set_cons_succ, List.getElem_toArray, List.getElem_cons_zero, List.getElem_cons_succ]
        refine wpAnyH_take (i := 2) (v := ?_) rfl (by kernel_rfl) (by kernel_rfl) (by kernel_rfl) (fun _ _ _ h => h) (Or.inl ⟨by rfl, ?_⟩) (by assumption) ?_
        rotate_left
        · (intro w hSw; (try dsimp only at hSw); go_simp <;> (with_reducible rfl))
        try simp only [Act.put, List.setIfInBounds_toArray, List.set_cons_zero, List.set_cons_succ, List.getElem_toArray, List.getElem_cons_zero, List.getElem_cons_succ]
        refine wpAnyH_take (i := 3) (v := ?_) rfl (by kernel_rfl) (by kernel_rfl) (by kernel_rfl) (fun _ _ _ h => h) (Or.inl ⟨by rfl, ?_⟩) (by assumption) ?_
        rotate_left
        · (intro w hSw; (try dsimp only at hSw); go_simp <;> (with_reducible rfl))
        try simp only [Act.put, List.setIfInBounds_toArray, List.set_cons_zero, List.set_cons_succ, List.getElem_toArray, List.getElem_cons_zero, List.getElem_cons_succ]
        refine wpAnyH_take (i := 4) (v := ?_) rfl (by kernel_rfl) (by kernel_rfl) (by kernel_rfl) (fun _ _ _ h => h) (Or.inl ⟨by rfl, ?_⟩) (by assumption) ?_
        rotate_left
        · (intro w hSw; (try dsimp only at hSw); go_simp <;> (with_reducible rfl))
        try simp only [Act.put, List.setIfInBounds_toArray, List.set_cons_zero, List.set_cons_succ, List.getElem_toArray, List.getElem_cons_zero, List.getElem_cons_succ]
        refine wpAnyH_take (i := 5) (v := ?_) rfl (by kernel_rfl) (by kernel_rfl) (by kernel_rfl) (fun _ _ _ h => h) (Or.inl ⟨by rfl, ?_⟩) (by assumption) ?_
        rotate_left
        · (intro w hSw; (try dsimp only at hSw); go_simp <;> (with_reducible rfl))
        try simp only [Act.put, List.setIfInBounds_toArray, List.set_cons_zero, List.set_cons_succ, List.getElem_toArray, List.getElem_cons_zero, List.getElem_cons_succ]
        refine wpAnyH_take (i := 6) (v := ?_) rfl (by kernel_rfl) (by kernel_rfl) (by kernel_rfl) (fun _ _ _ h => h) (Or.inl ⟨by rfl, ?_⟩) (by assumption) ?_
        rotate_left
        · (intro w hSw; (try dsimp only at hSw); go_simp <;> (with_reducible rfl))
        try simp only [Act.put, List.setIfInBounds_toArray, List.set_cons_zero, List.set_cons_succ, List.getElem_toArray, List.getElem_cons_zero, List.getElem_cons_succ]
        refine wpAnyH_take (i := 7) (v := ?_) rfl (by kernel_rfl) (by kernel_rfl) (by kernel_rfl) (fun _ _ _ h => h) (Or.inl ⟨by rfl, ?_⟩) (by assumption) ?_
        rotate_left
        · (intro w hSw; (try dsimp only at hSw); go_simp <;> (with_reducible rfl))
        try simp only [Act.put, List.setIfInBounds_toArray, List.set_cons_zero, List.set_cons_succ, List.getElem_toArray, List.getElem_cons_zero, List.getElem_cons_succ]
        refine wpAnyH_take (i := 8) (v := ?_) rfl (by kernel_rfl) (by kernel_rfl) (by kernel_rfl) (fun _ _ _ h => h) (Or.inl ⟨by rfl, ?_⟩) (by assumption) ?_
        rotate_left
        · (intro w hSw; (try dsimp only at hSw); go_simp <;> (with_reducible rfl))
        try simp only [Act.put, List.setIfInBounds_toArray, List.set_cons_zero, List.set_cons_succ, List.getElem_toArray, List.getElem_cons_zero, List.getElem_cons_succ]
        refine wpAnyH_take (i := 9) (v := ?_) rfl (by kernel_rfl) (by kernel_rfl) (by kernel_rfl) (fun _ _ _ h => h) (Or.inl ⟨by rfl, ?_⟩) (by assumption) ?_
        rotate_left
        · (intro w hSw; (try dsimp only at hSw); go_simp <;> (with_reducible rfl))
        try simp only [Act.put, List.setIfInBounds_toArray, List.set_cons_zero, List.set_cons_succ, List.getElem_toArray, List.getElem_cons_zero, List.getElem_cons_succ]
        refine wpAnyH_take (i := 10) (v := ?_) rfl (by kernel_rfl) (by kernel_rfl) (by kernel_rfl) (fun _ _ _ h => h) (Or.inl ⟨by rfl, ?_⟩) (by assumption) ?_
        rotate_left
        · (intro w hSw; (try dsimp only at hSw); go_simp <;> (with_reducible rfl))
        try simp only [Act.put, List.setIfInBounds_toArray, List.set_cons_zero, List.set_cons_succ, List.getElem_toArray, List.getElem_cons_zero, List.getElem_cons_succ]
        refine wpAnyH_take (i := 11) (v := ?_) rfl (by kernel_rfl) (by kernel_rfl) (by kernel_rfl) (fun _ _ _ h => h) (Or.inl ⟨by rfl, ?_⟩) (by assumption) ?_
        rotate_left
        · (intro w hSw; (try dsimp only at hSw); go_simp <;> (with_reducible rfl))
        try simp only [Act.put, List.setIfInBounds_toArray, List.set_cons_zero, List.set_cons_succ, List.getElem_toArray, List.getElem_cons_zero, List.getElem_cons_succ]
        refine wpAnyH_take (i := 12) (v := ?_) rfl (by kernel_rfl) (by kernel_rfl) (by kernel_rfl) (fun _ _ _ h => h) (Or.inl ⟨by rfl, ?_⟩) (by assumption) ?_
        rotate_left
        · (intro w hSw; (try dsimp only at hSw); go_simp <;> (with_reducible rfl))
        try simp only [Act.put, List.setIfInBounds_toArray, List.set_cons_zero, List.set_cons_succ, List.getElem_toArray, List.getElem_cons_zero, List.getElem_cons_succ]
        refine wpAnyH_take (i := 13) (v := ?_) rfl (by kernel_rfl) (by kernel_rfl) (by kernel_rfl) (fun _ _ _ h => h) (Or.inl ⟨by rfl, ?_⟩) (by assumption) ?_
        rotate_left
        · (intro w hSw; (try dsimp only at hSw); go_simp <;> (with_reducible rfl))
        try simp only [Act.put, List.setIfInBounds_toArray, List.set_cons_zero, List.set_cons_succ, List.getElem_toArray, List.getElem_cons_zero, List.getElem_cons_succ]
        refine wpAnyH_take (i := 14) (v := ?_) rfl (by kernel_rfl) (by kernel_rfl) (by kernel_rfl) (fun _ _ _ h => h) (Or.inl ⟨by rfl, ?_⟩) (by assumption) ?_
        rotate_left
        · (intro w hSw; (try dsimp only at hSw); go_simp <;> (with_reducible rfl))
        try simp only [Act.put, List.setIfInBounds_toArray, List.set_cons_zero, List.set_cons_succ, List.getElem_toArray, List.getElem_cons_zero, List.getElem_cons_succ]
        refine wpAnyH_take (i := 15) (v := ?_) rfl (by kernel_rfl) (by kernel_rfl) (by kernel_rfl) (fun _ _ _ h => h) (Or.inl ⟨by rfl, ?_⟩) (by assumption) ?_
        rotate_left
        · (intro w hSw; (try dsimp only at hSw); go_simp <;> (with_reducible rfl))
        try simp only [Act.put, List.setIfInBounds_toArray, List.set_cons_zero, List.set_cons_succ, List.getElem_toArray, List.getElem_cons_zero, List.getElem_cons_succ]
        refine wpAnyH_take (i := 16) (v := ?_) rfl (by kernel_rfl) (by kernel_rfl) (by kernel_rfl) (fun _ _ _ h => h) (Or.inl ⟨by rfl, ?_⟩) (by assumption) ?_
        rotate_left
        · (intro w hSw; (try dsimp only at hSw); go_simp <;> (with_reducible rfl))
        try simp only [Act.put, List.setIfInBounds_toArray, List.set_cons_zero, List.set_cons_succ, List.getElem_toArray, List.getElem_cons_zero, List.getElem_cons_succ]
        refine wpAnyH_take (i := 17) (v := ?_) rfl (by kernel_rfl) (by kernel_rfl) (by kernel_rfl) (fun _ _ _ h => h) (Or.inl ⟨by rfl, ?_⟩) (by assumption) ?_
        rotate_left
        · (intro w hSw; (try dsimp only at hSw); go_simp <;> (with_reducible rfl))
        try simp only [Act.put, List.setIfInBounds_toArray, List.set_cons_zero, List.set_cons_succ, List.getElem_toArray, List.getElem_cons_zero, List.getElem_cons_succ]
        refine wpAnyH_take (i := 18) (v := ?_) rfl (by kernel_rfl) (by kernel_rfl) (by kernel_rfl) (fun _ _ _ h => h) (Or.inl ⟨by rfl, ?_⟩) (by assumption) ?_
        rotate_left
        · (intro w hSw; (try dsimp only at hSw); go_simp <;> (with_reducible rfl))
        try simp only [Act.put, List.setIfInBounds_toArray, List.set_cons_zero, List.set_cons_succ, List.getElem_toArray, List.getElem_cons_zero, List.getElem_cons_succ]
        refine wpAnyH_take (i := 19) (v := ?_) rfl (by kernel_rfl) (by kernel_rfl) (by kernel_rfl) (fun _ _ _ h => h) (Or.inl ⟨by rfl, ?_⟩) (by assumption) ?_
        rotate_left
        · (intro w hSw; (try dsimp only at hSw); go_simp <;> (with_reducible rfl))
        try simp only [Act.put, List.setIfInBounds_toArray, List.set_cons_zero, List.set_cons_succ, List.getElem_toArray, List.getElem_cons_zero, List.getElem_cons_succ]
        refine wpAnyH_ready (rs := [20]) (by kernel_rfl) (by simp) ?_
        refine AllReadyH.cons rfl (fun K hK => ?_) AllReadyH.nil
        go_simp
        go_at_call 44
        refine HRX.out.mono ?_
        rintro e wq ⟨rfl, hbq⟩
        have hbq : Below wr.heap.size wr wq := (below_drewN (Below.refl _ wr) 1).trans hbq
        go_wp2_with fail
        refine hK.out _ _ ?_ (fun hHeld => ?_)
        · exact ⟨(hbq.cell (p := ⟨b, o + k, none⟩) HBL.out).trans hc, (hbq.cell (p := ⟨b, o + k1, none⟩) HBL.out).trans hc'⟩
        clear hK K
        try simp only [Act.put, List.setIfInBounds_toArray, List.set_cons_zero, List.set_cons_succ, List.getElem_toArray, List.getElem_cons_zero, List.getElem_cons_succ]
        refine wpAnyH_take (i := 21) (v := ?_) rfl (by kernel_rfl) (by kernel_rfl) (by kernel_rfl) (fun _ _ _ h => h) (Or.inl ⟨by rfl, ?_⟩) (by assumption) ?_
        rotate_left
        · (intro w hSw; (try dsimp only at hSw); go_simp <;> (with_reducible rfl))
        try simp only [Act.put, List.setIfInBounds_toArray, List.set_cons_zero, List.set_cons_succ, List.getElem_toArray, List.getElem_cons_zero, List.getElem_cons_succ]
        refine wpAnyH_take (i := 22) (v := ?_) rfl (by kernel_rfl) (by kernel_rfl) (by kernel_rfl) (fun _ _ _ h => h) (Or.inl ⟨by rfl, ?_⟩) (by assumption) ?_
        rotate_left
        · (intro w hSw; (try dsimp only at hSw); go_simp <;> (with_reducible rfl))
        try simp only [Act.put, List.setIfInBounds_toArray, List.set_cons_zero, List.set_cons_succ, List.getElem_toArray, List.getElem_cons_zero, List.getElem_cons_succ]
        refine wpAnyH_take (i := 23) (v := ?_) rfl (by kernel_rfl) (by kernel_rfl) (by kernel_rfl) (fun _ _ _ h => h) (Or.inl ⟨by rfl, ?_⟩) (by assumption) ?_
        rotate_left
        · (intro w hSw; (try dsimp only at hSw); go_simp <;> (with_reducible rfl))
        try simp only [Act.put, List.setIfInBounds_toArray, List.set_cons_zero, List.set_cons_succ, List.getElem_toArray, List.getElem_cons_zero, List.getElem_cons_succ]
        refine wpAnyH_take (i := 24) (v := ?_) rfl (by kernel_rfl) (by kernel_rfl) (by kernel_rfl) (fun _ _ _ h => h) (Or.inl ⟨by rfl, ?_⟩) (by assumption) ?_
        rotate_left
        · (intro w hSw; (try dsimp only at hSw); go_simp <;> (with_reducible rfl))
        try simp only [Act.put, List.setIfInBounds_toArray, List.set_cons_zero, List.set_cons_succ, List.getElem_toArray, List.getElem_cons_zero, List.getElem_cons_succ]
        by_cases h0 : 0 < k
        · have hpos : (0 : Int) < (k : Int) := by omega
          have hless := HLS.out k1 rj rk HRJK.out (by have h := HK1.out; rw [show k1 + 1 = k by omega]; exact HRK.out)
          have h3 : ¬ (rk : Int) ≤ (rj : Int) := by omega
          have h3d : decide ((rk : Int) ≤ (rj : Int)) = false := decide_eq_false h3
          have hsub : wrap64 ((k : Int) - 1) = (k1 : Int) := by have h := HK1.out; rw [w64 (by omega)]; omega
          have hsub2 : IntKind.i64.wrap ((k : Int) - 1) = (k1 : Int) := by have h := HK1.out; rw [IntWalk.i64_in _ (by omega)]; omega
          have hk1i : (k1 : Int) < (R.length : Int) := by omega
          have hk10 : (0 : Int) ≤ (k1 : Int) := by omega
          refine wpAnyH_take (i := 25) (v := ?_) rfl (by kernel_rfl) (by kernel_rfl) (by kernel_rfl) (fun _ _ _ h => h) (Or.inl ⟨by rfl, ?_⟩) (by assumption) ?_
          rotate_left
          · (intro w hSw; (try dsimp only at hSw); go_simp <;> (with_reducible rfl))
          try simp only [Act.put, List.setIfInBounds_toArray, List.set_cons_zero, List.set_cons_succ, List.getElem_toArray, List.getElem_cons_zero, List.getElem_cons_succ]
          refine wpAnyH_take (i := 26) (v := ?_) rfl (by kernel_rfl) (by kernel_rfl) (by kernel_rfl) (fun _ _ _ h => h) (Or.inl ⟨by rfl, ?_⟩) (by assumption) ?_
          rotate_left
          · (intro w hSw; (try dsimp only at hSw); go_simp <;> (with_reducible rfl))
          try simp only [Act.put, List.setIfInBounds_toArray, List.set_cons_zero, List.set_cons_succ, List.getElem_toArray, List.getElem_cons_zero, List.getElem_cons_succ]
          refine wpAnyH_take (i := 27) (v := ?_) rfl (by kernel_rfl) (by kernel_rfl) (by kernel_rfl) (fun _ _ _ h => h) (Or.inl ⟨by rfl, ?_⟩) (by assumption) ?_
          rotate_left
          · (intro w hSw; (try dsimp only at hSw); go_simp <;> (with_reducible rfl))
          try simp only [Act.put, List.setIfInBounds_toArray, List.set_cons_zero, List.set_cons_succ, List.getElem_toArray, List.getElem_cons_zero, List.getElem_cons_succ]
          refine wpAnyH_take (i := 28) (v := ?_) rfl (by kernel_rfl) (by kernel_rfl) (by kernel_rfl) (fun _ _ _ h => h) (Or.inl ⟨by rfl, ?_⟩) (by assumption) ?_
          rotate_left
          · (intro w hSw; (try dsimp only at hSw); go_simp <;> (with_reducible rfl))
          try simp only [Act.put, List.setIfInBounds_toArray, List.set_cons_zero, List.set_cons_succ, List.getElem_toArray, List.getElem_cons_zero, List.getElem_cons_succ]
          refine wpAnyH_take (i := 29) (v := ?_) rfl (by kernel_rfl) (by kernel_rfl) (by kernel_rfl) (fun _ _ _ h => h) (Or.inl ⟨by rfl, ?_⟩) (by assumption) ?_
          rotate_left
          · (intro w hSw; (try dsimp only at hSw); go_simp <;> (with_reducible rfl))
          try simp only [Act.put, List.setIfInBounds_toArray, List.set_cons_zero, List.set_cons_succ, List.getElem_toArray, List.getElem_cons_zero, List.getElem_cons_succ]
          refine wpAnyH_take (i := 30) (v := ?_) rfl (by kernel_rfl) (by kernel_rfl) (by kernel_rfl) (fun _ _ _ h => h) (Or.inl ⟨by rfl, ?_⟩) (by assumption) ?_
          rotate_left
          · (intro w hSw; (try dsimp only at hSw); go_simp <;> (with_reducible rfl))
          try simp only [Act.put, List.setIfInBounds_toArray, List.set_cons_zero, List.set_cons_succ, List.getElem_toArray, List.getElem_cons_zero, List.getElem_cons_succ]
          refine wpAnyH_take (i := 31) (v := ?_) rfl (by kernel_rfl) (by kernel_rfl) (by kernel_rfl) (fun _ _ _ h => h) (Or.inl ⟨by rfl, ?_⟩) (by assumption) ?_
          rotate_left
          · (intro w hSw; (try dsimp only at hSw); go_simp <;> (with_reducible rfl))
          try simp only [Act.put, List.setIfInBounds_toArray, List.set_cons_zero, List.set_cons_succ, List.getElem_toArray, List.getElem_cons_zero, List.getElem_cons_succ]
          refine wpAnyH_take (i := 32) (v := ?_) rfl (by kernel_rfl) (by kernel_rfl) (by kernel_rfl) (fun _ _ _ h => h) (Or.inl ⟨by rfl, ?_⟩) (by assumption) ?_
          rotate_left
          · (intro w hSw; (try dsimp only at hSw); go_simp <;> (with_reducible rfl))
          try simp only [Act.put, List.setIfInBounds_toArray, List.set_cons_zero, List.set_cons_succ, List.getElem_toArray, List.getElem_cons_zero, List.getElem_cons_succ]
          refine wpAnyH_take (i := 33) (v := ?_) rfl (by kernel_rfl) (by kernel_rfl) (by kernel_rfl) (fun _ _ _ h => h) (Or.inl ⟨by rfl, ?_⟩) (by assumption) ?_
          rotate_left
          · (intro w hSw; (try dsimp only at hSw); go_simp <;> (with_reducible rfl))
          try simp only [Act.put, List.setIfInBounds_toArray, List.set_cons_zero, List.set_cons_succ, List.getElem_toArray, List.getElem_cons_zero, List.getElem_cons_succ]
          refine wpAnyH_take (i := 34) (v := ?_) rfl (by kernel_rfl) (by kernel_rfl) (by kernel_rfl) (fun _ _ _ h => h) (Or.inl ⟨by rfl, ?_⟩) (by assumption) ?_
          rotate_left
          · (intro w hSw; (try dsimp only at hSw); go_simp <;> (with_reducible rfl))
          try simp only [Act.put, List.setIfInBounds_toArray, List.set_cons_zero, List.set_cons_succ, List.getElem_toArray, List.getElem_cons_zero, List.getElem_cons_succ]
          refine wpAnyH_take (i := 35) (v := ?_) rfl (by kernel_rfl) (by kernel_rfl) (by kernel_rfl) (fun _ _ _ h => h) (Or.inl ⟨by rfl, ?_⟩) (by assumption) ?_
          rotate_left
          · (intro w hSw; (try dsimp only at hSw); go_simp <;> (with_reducible rfl))
          try simp only [Act.put, List.setIfInBounds_toArray, List.set_cons_zero, List.set_cons_succ, List.getElem_toArray, List.getElem_cons_zero, List.getElem_cons_succ]
          refine wpAnyH_take (i := 36) (v := ?_) rfl (by kernel_rfl) (by kernel_rfl) (by kernel_rfl) (fun _ _ _ h => h) (Or.inl ⟨by rfl, ?_⟩) (by assumption) ?_
          rotate_left
          · (intro w hSw; (try dsimp only at hSw); go_simp <;> (with_reducible rfl))
          try simp only [Act.put, List.setIfInBounds_toArray, List.set_cons_zero, List.set_cons_succ, List.getElem_toArray, List.getElem_cons_zero, List.getElem_cons_succ]
          refine wpAnyH_take (i := 37) (v := ?_) rfl (by kernel_rfl) (by kernel_rfl) (by kernel_rfl) (fun _ _ _ h => h) (Or.inl ⟨by rfl, ?_⟩) (by assumption) ?_
          rotate_left
          · (intro w hSw; (try dsimp only at hSw); go_simp <;> (with_reducible rfl))
          try simp only [Act.put, List.setIfInBounds_toArray, List.set_cons_zero, List.set_cons_succ, List.getElem_toArray, List.getElem_cons_zero, List.getElem_cons_succ]
          refine wpAnyH_take (i := 38) (v := ?_) rfl (by kernel_rfl) (by kernel_rfl) (by kernel_rfl) (fun _ _ _ h => h) (Or.inl ⟨by rfl, ?_⟩) (by assumption) ?_
          rotate_left
          · (intro w hSw; (try dsimp only at hSw); go_simp <;> (with_reducible rfl))
          try simp only [Act.put, List.setIfInBounds_toArray, List.set_cons_zero, List.set_cons_succ, List.getElem_toArray, List.getElem_cons_zero, List.getElem_cons_succ]
          refine wpAnyH_done (by kernel_rfl) ?_ _
          go_wp2_with fail
          go_meet
          exact ⟨rfl, Lib.hid hbq⟩
        · have hpos : ¬ (0 : Int) < (k : Int) := by omega
          have hposd : decide ((0 : Int) < (k : Int)) = false := decide_eq_false hpos
          have hposn : decide (0 < k) = false := decide_eq_false h0
          refine wpAnyH_take (i := 25) (v := ?_) rfl (by kernel_rfl) (by kernel_rfl) (by kernel_rfl) (fun _ _ _ h => h) (Or.inl ⟨by rfl, ?_⟩) (by assumption) ?_
          rotate_left
          · (intro w hSw; (try dsimp only at hSw); go_simp <;> (with_reducible rfl))
          try simp only [Act.put, List.setIfInBounds_toArray, List.set_cons_zero, List.set_cons_succ, List.getElem_toArray, List.getElem_cons_zero, List.getElem_cons_succ]
          refine wpAnyH_take (i := 26) (v := ?_) rfl (by kernel_rfl) (by kernel_rfl) (by kernel_rfl) (fun _ _ _ h => h) (Or.inl ⟨by rfl, ?_⟩) (by assumption) ?_
          rotate_left
          · (intro w hSw; (try dsimp only at hSw); go_simp <;> (with_reducible rfl))
          try simp only [Act.put, List.setIfInBounds_toArray, List.set_cons_zero, List.set_cons_succ, List.getElem_toArray, List.getElem_cons_zero, List.getElem_cons_succ]
          refine wpAnyH_take (i := 27) (v := undef) rfl (by kernel_rfl) (by kernel_rfl) (by kernel_rfl) (fun _ _ _ h => h) (Or.inr ⟨by rfl, rfl⟩) (by assumption) ?_
          try simp only [Act.put, List.setIfInBounds_toArray, List.set_cons_zero, List.set_cons_succ, List.getElem_toArray, List.getElem_cons_zero, List.getElem_cons_succ]
          refine wpAnyH_take (i := 28) (v := undef) rfl (by kernel_rfl) (by kernel_rfl) (by kernel_rfl) (fun _ _ _ h => h) (Or.inr ⟨by rfl, rfl⟩) (by assumption) ?_
          try simp only [Act.put, List.setIfInBounds_toArray, List.set_cons_zero, List.set_cons_succ, List.getElem_toArray, List.getElem_cons_zero, List.getElem_cons_succ]
          refine wpAnyH_take (i := 29) (v := undef) rfl (by kernel_rfl) (by kernel_rfl) (by kernel_rfl) (fun _ _ _ h => h) (Or.inr ⟨by rfl, rfl⟩) (by assumption) ?_
          try simp only [Act.put, List.setIfInBounds_toArray, List.set_cons_zero, List.set_cons_succ, List.getElem_toArray, List.getElem_cons_zero, List.getElem_cons_succ]
          refine wpAnyH_take (i := 30) (v := undef) rfl (by kernel_rfl) (by kernel_rfl) (by kernel_rfl) (fun _ _ _ h => h) (Or.inr ⟨by rfl, rfl⟩) (by assumption) ?_
          try simp only [Act.put, List.setIfInBounds_toArray, List.set_cons_zero, List.set_cons_succ, List.getElem_toArray, List.getElem_cons_zero, List.getElem_cons_succ]
          refine wpAnyH_take (i := 31) (v := undef) rfl (by kernel_rfl) (by kernel_rfl) (by kernel_rfl) (fun _ _ _ h => h) (Or.inr ⟨by rfl, rfl⟩) (by assumption) ?_
          try simp only [Act.put, List.setIfInBounds_toArray, List.set_cons_zero, List.set_cons_succ, List.getElem_toArray, List.getElem_cons_zero, List.getElem_cons_succ]
          refine wpAnyH_take (i := 32) (v := undef) rfl (by kernel_rfl) (by kernel_rfl) (by kernel_rfl) (fun _ _ _ h => h) (Or.inr ⟨by rfl, rfl⟩) (by assumption) ?_
          try simp only [Act.put, List.setIfInBounds_toArray, List.set_cons_zero, List.set_cons_succ, List.getElem_toArray, List.getElem_cons_zero, List.getElem_cons_succ]
          refine wpAnyH_take (i := 33) (v := undef) rfl (by kernel_rfl) (by kernel_rfl) (by kernel_rfl) (fun _ _ _ h => h) (Or.inr ⟨by rfl, rfl⟩) (by assumption) ?_
          try simp only [Act.put, List.setIfInBounds_toArray, List.set_cons_zero, List.set_cons_succ, List.getElem_toArray, List.getElem_cons_zero, List.getElem_cons_succ]
          refine wpAnyH_take (i := 34) (v := undef) rfl (by kernel_rfl) (by kernel_rfl) (by kernel_rfl) (fun _ _ _ h => h) (Or.inr ⟨by rfl, rfl⟩) (by assumption) ?_
          try simp only [Act.put, List.setIfInBounds_toArray, List.set_cons_zero, List.set_cons_succ, List.getElem_toArray, List.getElem_cons_zero, List.getElem_cons_succ]
          refine wpAnyH_take (i := 35) (v := undef) rfl (by kernel_rfl) (by kernel_rfl) (by kernel_rfl) (fun _ _ _ h => h) (Or.inr ⟨by rfl, rfl⟩) (by assumption) ?_
          try simp only [Act.put, List.setIfInBounds_toArray, List.set_cons_zero, List.set_cons_succ, List.getElem_toArray, List.getElem_cons_zero, List.getElem_cons_succ]
          refine wpAnyH_take (i := 36) (v := undef) rfl (by kernel_rfl) (by kernel_rfl) (by kernel_rfl) (fun _ _ _ h => h) (Or.inr ⟨by rfl, rfl⟩) (by assumption) ?_
          try simp only [Act.put, List.setIfInBounds_toArray, List.set_cons_zero, List.set_cons_succ, List.getElem_toArray, List.getElem_cons_zero, List.getElem_cons_succ]
          refine wpAnyH_take (i := 37) (v := ?_) rfl (by kernel_rfl) (by kernel_rfl) (by kernel_rfl) (fun _ _ _ h => h) (Or.inl ⟨by rfl, ?_⟩) (by assumption) ?_
          rotate_left
          · (intro w hSw; (try dsimp only at hSw); go_simp <;> (with_reducible rfl))
          try simp only [Act.put, List.setIfInBounds_toArray, List.set_cons_zero, List.set_cons_succ, List.getElem_toArray, List.getElem_cons_zero, List.getElem_cons_succ]
          refine wpAnyH_take (i := 38) (v := ?_) rfl (by kernel_rfl) (by kernel_rfl) (by kernel_rfl) (fun _ _ _ h => h) (Or.inl ⟨by rfl, ?_⟩) (by assumption) ?_
          rotate_left
          · (intro w hSw; (try dsimp only at hSw); go_simp <;> (with_reducible rfl))
          try simp only [Act.put, List.setIfInBounds_toArray, List.set_cons_zero, List.set_cons_succ, List.getElem_toArray, List.getElem_cons_zero, List.getElem_cons_succ]
          refine wpAnyH_done (by kernel_rfl) ?_ _
          go_wp2_with fail
          go_meet
          exact ⟨rfl, Lib.hid hbq⟩
      case rest =>
        obtain ⟨rfl, HB5c⟩ := hcut
        obtain ⟨w5, rfl⟩ : ∃ w5 : World, w5 = wc := ⟨_, rfl⟩
        have HB5 := HB5c
        clear HB5c
        have hc5 := (HB5.out.cell (p := ⟨b, o + k, none⟩) HBL.out).trans hc
        have HBX5 := Lib.hid ((HBX4.out.below HBB.out HBX4.out.lt).below HB5.out (Nat.lt_of_lt_of_le HBX4.out.lt HBB.out.size))
        have HBB5 := Lib.hid (HBB.out.trans (HB5.out.mono HBB.out.size))
        have HSS := Lib.hid (sameK_succ (d := d) HRK.out)
        have HMX := Lib.hid (show (mix ^^^ rk) < 65536 ∧ isRule E (mix ^^^ rk) = true from ⟨Nat.xor_lt_two_pow (n := 16) HM.out.1 hrk16, HXR.out mix rk HM.out.2 HRKR.out⟩)
        have hxor := i64_xor mix rk (by have := HM.out.1; omega) (by omega)
        go_upto_region 14 with fail
        go_cut [14] (fun v14 wx => v14 = .bool (sameK R d (k + 1)) ∧ Hid (∃ n, w5.drewN n = wx))
        case first =>
          obtain ⟨S0, hS0⟩ : ∃ S0, sameK R d k = S0 := ⟨_, rfl⟩
          rw [hS0] at HSS
          rw [hS0]
          cases S0 with
          | false =>
            have HE := Lib.hid (show sameK R d (k + 1) = false by rw [HSS.out]; rfl)
            clear hS0
            go_quiet (fail)
            go_wp2_with fail
            go_meet
            exact ⟨by rw [HE.out], Lib.hid ⟨nq, rfl⟩⟩
          | true =>
            have hip := ip_sizes rk p q
            have hand1 := i64_and rk p (by omega) (by have := HP.out; rw [HPN.out] at this; omega)
            have hand2 := i64_and rk q (by omega) (by have := HQ.out; rw [HPN.out] at this; omega)
            have hx1 : rk &&& p < 65536 := Nat.lt_of_le_of_lt Nat.and_le_left hrk16
            have hx2 : rk &&& q < 65536 := Nat.lt_of_le_of_lt Nat.and_le_left hrk16
            have hs1 := popc_le (rk &&& p)
            have hs2 := popc_le (rk &&& q)
            rw [HDE.out] at hip
            obtain ⟨y1, hy1⟩ : ∃ y, rk &&& p = y := ⟨_, rfl⟩
            obtain ⟨y2, hy2⟩ : ∃ y, rk &&& q = y := ⟨_, rfl⟩
            rw [hy1] at hip hand1 hx1 hs1
            rw [hy2] at hip hand2 hx2 hs2
            obtain ⟨u1, hu1⟩ : ∃ u, popc y1 = u := ⟨_, rfl⟩
            obtain ⟨u2, hu2⟩ : ∃ u, popc y2 = u := ⟨_, rfl⟩
            have HU1 := Lib.hid (fun w => RSize2_of (x := y1) (y1 : Int) w rfl hx1 hu1)
            have HU2 := Lib.hid (fun w => RSize2_of (x := y2) (y2 : Int) w rfl hx2 hu2)
            rw [hu1] at hip hs1
            rw [hu2] at hip hs2
            have HIP := Lib.hid hip
            clear hS0 hy1 hy2 hu1 hu2 hip
            by_cases hodd : (u1 + u2) % 2 = 1
            · have HE := Lib.hid (show sameK R d (k + 1) = false by rw [HSS.out, HIP.out, decide_eq_true hodd]; rfl)
              have e1 : ((u1 : Int) + (u2 : Int)).tmod 2 = 1 := by rw [Int.tmod_eq_emod_of_nonneg (by omega)]; omega
              have e2 : ((u1 : Int) + (u2 : Int)) % 2 = 1 := by omega
              have e3 : wrap64 ((u1 : Int) + (u2 : Int)) = (u1 : Int) + (u2 : Int) := w64 (by omega)
              have e4 : IntKind.i64.wrap ((u1 : Int) + (u2 : Int)) = (u1 : Int) + (u2 : Int) := IntWalk.i64_in _ (by omega)
              clear hodd
              go_quiet ((go_at_call 27; first | (with_reducible exact quiet_w _ (HU1.out _) rfl) | (with_reducible exact quiet_w _ (HU2.out _) rfl)))
              go_wp2_with fail
              go_meet
              exact ⟨by rw [HE.out], Lib.hid ⟨nq, rfl⟩⟩
            · have HE := Lib.hid (show sameK R d (k + 1) = true by rw [HSS.out, HIP.out, decide_eq_false hodd]; rfl)
              have e1 : ((u1 : Int) + (u2 : Int)).tmod 2 = 0 := by rw [Int.tmod_eq_emod_of_nonneg (by omega)]; omega
              have e2 : ((u1 : Int) + (u2 : Int)) % 2 = 0 := by omega
              have e3 : wrap64 ((u1 : Int) + (u2 : Int)) = (u1 : Int) + (u2 : Int) := w64 (by omega)
              have e4 : IntKind.i64.wrap ((u1 : Int) + (u2 : Int)) = (u1 : Int) + (u2 : Int) := IntWalk.i64_in _ (by omega)
              clear hodd
              go_quiet ((go_at_call 27; first | (with_reducible exact quiet_w _ (HU1.out _) rfl) | (with_reducible exact quiet_w _ (HU2.out _) rfl)))
              go_wp2_with fail
              go_meet
              exact ⟨by rw [HE.out], Lib.hid ⟨nq, rfl⟩⟩
        case rest =>
          obtain ⟨rfl, HW6⟩ := hcut
          obtain ⟨n6, hn6⟩ := HW6.out
          clear HW6
          subst hn6
          have HBB6 := Lib.hid (below_drewN HBB5.out n6)
          have hz2 := HBX5.out.cell 2
          simp only [List.getElem?_toArray, List.getElem?_cons_zero, List.getElem?_cons_succ] at hz2
          have hk60 : (k : Int).tmod 60 = (k : Int) := by rw [Int.tmod_eq_emod_of_nonneg (by omega)]; omega
          have hk61 : (k : Int) % 60 = (k : Int) := by omega
          have hk62 : k % 60 = k := by omega
          obtain ⟨zz, hzz⟩ : ∃ zz, z / 2 ^ k = zz := ⟨_, rfl⟩
          have HZZ := Lib.hid hzz
          obtain ⟨mx, hmx⟩ : ∃ mx, mix ^^^ rk = mx := ⟨_, rfl⟩
          rw [hmx] at hxor HMX
          clear hmx
          cases hbz : (zz.tmod 2 != 0) with
          | false =>
            go_wp2_with fail
            go_roundg g
            case measure => omega
            case rel => exact ⟨k + 1, mix, by omega, rfl, rfl, by go_num, HM, HBB6⟩
          | true =>
            go_wp2_with fail
            go_roundg g
            case measure => omega
            case rel => exact ⟨k + 1, mx, by omega, rfl, rfl, by go_num, HMX, HBB6⟩
set_option maxRecDepth 100000 in
theorem pmixed_row (os : Os) (started : os.Started) (H : Type) (enc : TypeId × Value → H) :
    ReturnsInHanded {} Try.checked os 13 .any (Rows.pegMixedSpec.pre6 enc Try.prog Try.f13 Rows.pegMixedRow.domain false) (Rows.pegMixedSpec.post enc Try.prog Try.f13 false true false false) := by
  refine returnsInHanded_of_change (C := Try.checked) ownNone started (by kernel_rfl) Try.func13
    (ChangeSpec.witness6 (enc := enc) (C := Try.checked) false ⟨#[], #[.int .i64 0, .slice none 0 0, .agg #[.int .i64 0, .int .i64 0, .int .i64 0]], []⟩ 8 (by kernel_rfl) (by kernel_rfl) (by kernel_rfl) (by kernel_rfl)) ?_
  intro W base args ds gs before hval hW _ _
  have hW2 := hW
  obtain ⟨p, q, hA, hV, rfl, _, _⟩ := hW2
  have hA : DataW.TrodAll enc Try.prog W 0 (fun _ => true) true Try.f13.params.toList args.toList ds p := hA
  have hAk := hA
  have hval : ∀ (j : Nat) t v, Try.f13.params[j]? = some t → args[j]? = some v → Value.okWide Try.prog W .any base t v := hval
  rw [Try.params13] at hA hval
  obtain ⟨v0, vs0, d0, ds0, p0, q0, hargs, rfl, rfl, h0, r0⟩ := trodAll_cons hA
  obtain ⟨v1, vs1, d1, ds1, p1, q1, rfl, rfl, rfl, h1, r1⟩ := trodAll_cons r0
  obtain ⟨v2, vs2, d2, ds2, p2, q2, rfl, rfl, rfl, h2, r2⟩ := trodAll_cons r1
  obtain ⟨rfl, rfl, rfl⟩ := trodAll_nil r2
  obtain rfl : args = #[v0, v1, v2] := by cases args; simp_all
  obtain ⟨rfl, rfl⟩ := trodVars_none hV
  obtain ⟨a0, rfl, rfl, rfl, w0⟩ := open_int Try.underlying3 (hval 0 3 v0 rfl rfl) h0
  obtain ⟨A1, z1, c1, rfl, _, m1, hr1⟩ := open_tris (hval 1 22 v1 rfl rfl) h1
  obtain ⟨x2, y2, z2, rfl⟩ := open_three (hval 2 30 v2 rfl rfl) h2
  clear hA hval
  simp only [List.append_nil, List.nil_append] at hW hAk
  refine (pmixed_any a0 A1 z1 c1 x2 y2 z2 W hr1 m1).mono fun e W' ⟨he, hb⟩ => ?_
  subst he
  exact ⟨_, rfl, post_bool hW hb (by rw [Try.params13]; decide) hAk (fun _ => rfl) rfl rfl (by kernel_rfl)⟩

theorem pmixed_holds : Rows.PegMixedSaid :=
  OpenClaim.holds_of_wide 13 Try.f13 rfl rfl rfl rfl rfl rfl rfl ⟨rfl, rfl, rfl, rfl, rfl⟩ rfl rfl rfl rfl rfl (by kernel_rfl) Try.func13 (by kernel_rfl)
    (of_decide_eq_true (by kernel_rfl)) (by unfold Func.isWrapper; first | (rw [if_pos (by decide +kernel)]; kernel_rfl) | (rw [if_neg (by decide +kernel)]; exact ⟨rfl, rfl⟩))
    (fun os started H enc _ => pmixed_row os started H enc)

#print axioms pmixed_holds
end Go.Proofs.Ythbhengcinkepaa
