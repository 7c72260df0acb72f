/- The reference's Jumps (package peg): the jumps that can be made, put one by one into their places. -/
import Derived.Test.YthbhengcinkepaaRJump
import Derived.Test.YthbhengcinkepaaAppT
namespace Go.Proofs.Ythbhengcinkepaa
open Go.RowKit Lamp

/-- A jump of a line is one of the line's two ways. -/
def twoL (e : Tri) : List Tri := [e, (e.2.2, e.2.1, e.1)]
theorem twoL_ok {n : Nat} {e : Tri} (h : TriOk n e) : ∀ j ∈ twoL e, TriOk n j := by
  intro j hj
  simp only [twoL, List.mem_cons, List.not_mem_nil, or_false] at hj
  rcases hj with rfl | rfl
  · exact h
  · obtain ⟨h1, h2, h3, h4, h5, h6, h7, h8, h9⟩ := h
    exact ⟨h5, h6, h3, h4, h1, h2, h9.symm, h8.symm, h7.symm⟩
theorem put_next {P : Tri → Bool} {out pre : List Tri} {j : Tri} {k2 at_ : Nat} {two : List Tri} (hp : out.Perm (pre ++ (two.take k2).filter P)) (hj : two[k2]? = some j) (hP : P j = true) : (out.take at_ ++ [j] ++ out.drop at_).Perm (pre ++ (two.take (k2 + 1)).filter P) := by
  have h1 := (List.getElem?_eq_some_iff.1 hj)
  rw [List.take_succ_eq_append_getElem h1.1, h1.2, List.filter_append]
  have h2 : [j].filter P = [j] := by simp [hP]
  rw [h2, ← List.append_assoc]
  exact (put_perm out j at_).trans (hp.append_right [j])
theorem put_skip {P : Tri → Bool} {out pre : List Tri} {j : Tri} {k2 : Nat} {two : List Tri} (hp : out.Perm (pre ++ (two.take k2).filter P)) (hj : two[k2]? = some j) (hP : P j = false) : out.Perm (pre ++ (two.take (k2 + 1)).filter P) := by
  have h1 := (List.getElem?_eq_some_iff.1 hj)
  rw [List.take_succ_eq_append_getElem h1.1, h1.2, List.filter_append]
  have h2 : [j].filter P = [] := by simp [hP]
  rw [h2, List.append_nil]
  exact hp
theorem lt_next {out : List Tri} {j : Tri} {k : Nat} (h : ∀ i, i < k → ltT (out.getD i (0, 0, 0)) j = true) (hk : ltT (out.getD k (0, 0, 0)) j = true) : ∀ i, i < k + 1 → ltT (out.getD i (0, 0, 0)) j = true := fun i hi => by
  by_cases e : i = k
  · rw [e]; exact hk
  · exact h i (by omega)

set_option maxRecDepth 100000 in
set_option maxHeartbeats 16000000 in
theorem RJumps_any (A : Option Addr) (c n p : Nat) (l : List Tri) (w : World) (hr : RTri w w.heap.size A l) (hl : l.length ≤ 40) (hn : n ≤ 16) (ho : LinesOk n l) (hp : p < 65536) :
    Calls Try.prog 20 #[.slice A l.length c, .int .i64 p] w fun e w' => ∃ v, e = .returned v ∧ OwnT 30 w' w.heap.size v ((jumpsL l).filter fun j => canJ j p) ∧ Below w.heap.size w w' := by
  have HR := Lib.hid hr
  have HOK := Lib.hid ho
  have HPP := Lib.hid hp
  have HEND := Lib.hid (fun (out : List Tri) (h1 : UpT out) (h2 : out.Perm ((bothL l).filter fun j => canJ j p)) => jumps_are (l := l) h1 h2)
  obtain ⟨F, hF⟩ : ∃ F, ((jumpsL l).filter fun j => canJ j p) = F := ⟨_, rfl⟩
  rw [hF] at HEND ⊢
  have HLB := Lib.hid (show ∀ k, (bothL (l.take k)).length ≤ 80 from fun k => by rw [bothL_len, List.length_take]; omega)
  clear hr ho hp hF
  go_enter Try.func20, Try.ntmps20
  go_wp2_with fail
  go_loopg [5, 6] l.length (fun g sv i ws => ∃ (k : Nat) (v : Value) (out : List Tri), k + g = l.length ∧ v = sv ∧ i = .int .i64 k ∧ Hid (UpT out ∧ out.Perm ((bothL (l.take k)).filter fun j => canJ j p)) ∧ Hid (OwnT 30 ws w.heap.size v out) ∧ Hid (Below w.heap.size w ws))
  case atStart => exact ⟨0, _, [], by omega, rfl, rfl, Lib.hid ⟨List.Pairwise.nil, by simp [bothL]⟩, Lib.hid (OwnT.nil_ _ _ _), Lib.hid (Below.refl _ _)⟩
  case round =>
    obtain ⟨k, v, out, hk, rfl, rfl, HU1, HO1, HB1⟩ := hrel
    have HU := HU1
    have HO := HO1
    have HB := HB1
    clear HU1 HO1 HB1
    cases gk with
    | zero =>
      obtain rfl : k = l.length := by omega
      have HE := Lib.hid (show out = F from HEND.out out HU.out.1 (by have h := HU.out.2; rw [List.take_length] at h; exact h))
      have hge : ¬ (l.length : Int) < (l.length : Int) := by omega
      have hgd : decide ((l.length : Int) < (l.length : Int)) = false := decide_eq_false hge
      go_wp2_with fail
      go_ret
      exact ⟨v, rfl, by rw [← HE.out]; exact HO.out, HB.out⟩
    | succ g =>
      have hkl : (k : Int) < (l.length : Int) := by omega
      obtain ⟨b, o, x, y, z, hA, hb, hx, hc0, hc1, hc2⟩ := (HR.out.up HB.out).at_ (k := k) (by omega)
      subst hA
      obtain ⟨wo, rfl⟩ : ∃ wo : World, wo = wr := ⟨_, rfl⟩
      have HTWO := Lib.hid (twoL_ok (HOK.out _ (List.mem_of_getElem? hx)))
      have HNX := Lib.hid (bothL_take l k _ hx)
      clear hx
      go_wp2_with fail
      have hsx : Below wo.heap.size wo ((wo.alloc (Obj.cells #[Value.int .i64 x, Value.int .i64 y, Value.int .i64 z] 30)).alloc (Obj.cells #[Value.int .i64 x, Value.int .i64 y, Value.int .i64 z, Value.int .i64 z, Value.int .i64 y, Value.int .i64 x] 30)) := ((Below.refl _ wo).alloc (Nat.le_refl _) _).alloc (by simp) _
      have hbx := Box.new (wo.alloc (Obj.cells #[Value.int .i64 x, Value.int .i64 y, Value.int .i64 z] 30)) 30 #[Value.int .i64 x, Value.int .i64 y, Value.int .i64 z, Value.int .i64 z, Value.int .i64 y, Value.int .i64 x]
      rw [show (wo.alloc (Obj.cells #[Value.int .i64 x, Value.int .i64 y, Value.int .i64 z] 30)).heap.size = wo.heap.size + 1 by simp] at hbx
      have hsz : ((wo.alloc (Obj.cells #[Value.int .i64 x, Value.int .i64 y, Value.int .i64 z] 30)).alloc (Obj.cells #[Value.int .i64 x, Value.int .i64 y, Value.int .i64 z, Value.int .i64 z, Value.int .i64 y, Value.int .i64 x] 30)).heap.size = wo.heap.size + 2 := by simp
      obtain ⟨W2, hW2⟩ : ∃ W2, (wo.alloc (Obj.cells #[Value.int .i64 x, Value.int .i64 y, Value.int .i64 z] 30)).alloc (Obj.cells #[Value.int .i64 x, Value.int .i64 y, Value.int .i64 z, Value.int .i64 z, Value.int .i64 y, Value.int .i64 x] 30) = W2 := ⟨_, rfl⟩
      rw [hW2] at hsx hbx hsz ⊢
      have HBX := Lib.hid hbx
      have HSX := Lib.hid hsx
      have HSZ := Lib.hid hsz
      have HO2 := Lib.hid (HO.out.below hsx (fun g e => (HO.out.blk g e).2.1))
      have HRT := Lib.hid (show RTri W2 W2.heap.size (some ⟨wo.heap.size + 1, 0, none⟩) (twoL (x, y, z)) from fun j u hu => ⟨wo.heap.size + 1, 0, rfl, by omega, by rw [Nat.zero_add, hbx.cell j]; simpa [twoL, triV] using hu⟩)
      clear hW2 hbx hsx hsz hc0 hc1 hc2
      go_loopg [5, 9] 2 (fun g sv i ws => ∃ (k2 : Nat) (v : Value) (out : List Tri), k2 + g = 2 ∧ v = sv ∧ i = .int .i64 k2 ∧ Hid (UpT out ∧ out.Perm (((bothL (l.take k)).filter fun j => canJ j p) ++ ((twoL (x, y, z)).take k2).filter fun j => canJ j p)) ∧ Hid (OwnT 30 ws w.heap.size v out) ∧ Hid (Below W2.heap.size W2 ws))
      case atStart => exact ⟨0, v, out, by omega, rfl, rfl, Lib.hid ⟨HU.out.1, by simpa using HU.out.2⟩, HO2, Lib.hid (Below.refl _ _)⟩
      case round =>
        clear HO HU HO2
        obtain ⟨k2, v, out, hk2, rfl, rfl, HU1, HO1, HBB1⟩ := hrel
        have HU := HU1
        have HO := HO1
        have HBB := HBB1
        clear HU1 HO1 HBB1
        have HBW := Lib.hid (HB.out.trans ((HSX.out.trans (HBB.out.mono HSX.out.size)).mono HB.out.size))
        cases gk with
        | zero =>
          obtain rfl : k2 = 2 := by omega
          have HN := Lib.hid (show UpT out ∧ out.Perm ((bothL (l.take (k + 1))).filter fun j => canJ j p) from ⟨HU.out.1, by rw [HNX.out, List.filter_append]; exact HU.out.2⟩)
          go_wp2_with fail
          go_roundg g
          case measure => omega
          case rel => exact ⟨k + 1, v, out, by omega, rfl, by go_num, HN, HO, HBW⟩
        | succ g2 =>
          have hk2' : (k2 : Int) < 2 := by omega
          have hk2n : k2 < 2 := by omega
          obtain ⟨b', o', ja, jb, jc, hA', hb', hj, d0, d1, d2⟩ := ((HRT.out.below HBB.out).more HBB.out.size).at_ (k := k2) (by simp [twoL]; omega)
          cases hA'
          obtain ⟨pa, pb, pc, he, hpa, hpb, hpc, hab, hac, hbc⟩ := (HTWO.out _ (List.mem_of_getElem? hj)).nats
          cases he
          have HJ := Lib.hid hj
          have HRJ := Lib.hid (RJump_any pa pb pc p wr (by omega) (by omega) (by omega) HPP.out hab hac hbc)
          rw [Nat.zero_add] at d0 d1 d2
          have HOL := Lib.hid (show out.length ≤ 160 from by
            have h1 := HU.out.2.length_eq
            rw [List.length_append] at h1
            have h2 := List.length_filter_le (fun j => canJ j p) (bothL (l.take k))
            have h3 := List.length_filter_le (fun j => canJ j p) ((twoL (x, y, z)).take k2)
            have h4 := HLB.out k
            have h5 : ((twoL (x, y, z)).take k2).length ≤ 2 := by simp [twoL]; omega
            omega)
          have HXL0 := Lib.hid (show wo.heap.size + 1 < wr.heap.size by have := HBB.out.size; have := HSZ.out; omega)
          clear hj
          cases hcj : canJ ((pa : Int), (pb : Int), (pc : Int)) p with
          | false =>
            rw [hcj] at HRJ
            have HN := Lib.hid (show UpT out ∧ out.Perm (((bothL (l.take k)).filter fun j => canJ j p) ++ ((twoL (x, y, z)).take (k2 + 1)).filter fun j => canJ j p) from ⟨HU.out.1, put_skip HU.out.2 HJ.out hcj⟩)
            clear hcj
            go_wp2_with fail
            refine HRJ.out.mono ?_
            rintro e w1 ⟨rfl, hb1⟩
            have HB1 := Lib.hid (HBB.out.trans (hb1.mono HBB.out.size))
            have HO1 := Lib.hid (HO.out.below hb1 (fun g e => (HO.out.blk g e).2.1))
            clear hb1
            go_wp2_with fail
            go_roundg g2
            case measure => omega
            case rel => exact ⟨k2 + 1, v, out, by omega, rfl, by go_num, HN, HO1, HB1⟩
          | true =>
            rw [hcj] at HRJ
            have HCJ := Lib.hid hcj
            clear hcj
            go_wp2_with fail
            refine HRJ.out.mono ?_
            rintro e w1 ⟨rfl, hb1⟩
            have HB1 := Lib.hid (HBB.out.trans (hb1.mono HBB.out.size))
            have HO1 := Lib.hid (HO.out.below hb1 (fun g e => (HO.out.blk g e).2.1))
            have f0 := (hb1.cell (p := ⟨wo.heap.size + 1, k2 * 3, none⟩) HXL0.out).trans d0
            have f1 := (hb1.cell (p := ⟨wo.heap.size + 1, k2 * 3 + 1, none⟩) HXL0.out).trans d1
            have f2 := (hb1.cell (p := ⟨wo.heap.size + 1, k2 * 3 + 2, none⟩) HXL0.out).trans d2
            have HXL1 := Lib.hid (Nat.lt_of_lt_of_le HXL0.out hb1.size)
            have HF0 := Lib.hid f0
            have HF1 := Lib.hid f1
            have HF2 := Lib.hid f2
            have HWW := Lib.hid (show w.heap.size ≤ w1.heap.size from Nat.le_trans HBW.out.size hb1.size)
            clear hb1 d0 d1 d2 f0 f1 f2 HO
            obtain ⟨A1, c1, rfl, hc1, hr1, hblk1⟩ := HO1.out.caps
            have HR1 := Lib.hid hr1
            clear hr1 hblk1
            obtain ⟨wj, rfl⟩ : ∃ wj : World, wj = w1 := ⟨_, rfl⟩
            go_wp2_with fail
            go_loopg [12] out.length (fun g i wx => ∃ j : Nat, j + g = out.length ∧ i = .int .i64 j ∧ Hid (∀ i, i < j → ltT (out.getD i (0, 0, 0)) ((pa : Int), (pb : Int), (pc : Int)) = true) ∧ Hid (Below wj.heap.size wj wx))
            case atStart => exact ⟨0, by omega, rfl, Lib.hid (fun i h => by omega), Lib.hid (Below.refl _ _)⟩
            case round =>
              obtain ⟨j, hjg, rfl, HFL1, HBJ1⟩ := hrel
              have HFL := HFL1
              have HBJ := HBJ1
              clear HFL1 HBJ1
              obtain ⟨wk, rfl⟩ : ∃ wk : World, wk = wr := ⟨_, rfl⟩
              have HRK := Lib.hid ((HR1.out.below HBJ.out).more HBJ.out.size)
              have e0 := (HBJ.out.cell (p := ⟨wo.heap.size + 1, k2 * 3, none⟩) HXL1.out).trans HF0.out
              have e1 := (HBJ.out.cell (p := ⟨wo.heap.size + 1, k2 * 3 + 1, none⟩) HXL1.out).trans HF1.out
              have e2 := (HBJ.out.cell (p := ⟨wo.heap.size + 1, k2 * 3 + 2, none⟩) HXL1.out).trans HF2.out
              go_upto_region 13 with fail
              go_cut [62] (fun v62 wx => ∃ tb : Bool, v62 = .bool tb ∧ Hid (tb = true → j < out.length ∧ ltT (out.getD j (0, 0, 0)) ((pa : Int), (pb : Int), (pc : Int)) = true) ∧ Hid (tb = false → j < out.length → ltT (out.getD j (0, 0, 0)) ((pa : Int), (pb : Int), (pc : Int)) = false) ∧ Hid (Below wk.heap.size wk wx))
              case first =>
                by_cases hjl : j < out.length
                · obtain ⟨b9, o9, y0, y1, y2, hA9, hb9, hy, q0, q1, q2⟩ := HRK.out.at_ hjl
                  subst hA9
                  have HY := Lib.hid (show out.getD j (0, 0, 0) = (y0, y1, y2) by rw [List.getD_eq_getElem?_getD, hy]; rfl)
                  have hji : (j : Int) < (out.length : Int) := by omega
                  have HJL := Lib.hid hjl
                  have HLESS := Lib.hid (less2_any y0 y1 y2 pa pb pc)
                  obtain ⟨t, ht⟩ : ∃ t, ltT (y0, y1, y2) ((pa : Int), (pb : Int), (pc : Int)) = t := ⟨_, rfl⟩
                  rw [ht] at HLESS
                  have HT := Lib.hid ht
                  clear hy ht
                  go_still_tail 13, (by kernel_rfl)
                  go_wp2_with fail
                  refine (HLESS.out _).mono ?_
                  rintro e w9 ⟨rfl, hb9⟩
                  have HB9 := Lib.hid (show Below wk.heap.size wk w9 from (below_drewN (Below.refl _ wk) 1).trans hb9)
                  clear hb9
                  go_wp2_with fail
                  go_meet
                  exact ⟨t, rfl, Lib.hid (fun h => ⟨HJL.out, by rw [HY.out, HT.out, h]⟩), Lib.hid (fun h _ => by rw [HY.out, HT.out, h]), HB9⟩
                · have hji : ¬ (j : Int) < (out.length : Int) := by omega
                  have HJL := Lib.hid hjl
                  go_quiet (fail)
                  go_wp2_with fail
                  go_meet
                  exact ⟨false, rfl, Lib.hid (fun h => by cases h), Lib.hid (fun _ h => absurd h HJL.out), Lib.hid (below_drewN (Below.refl _ wk) nq)⟩
              case rest =>
                obtain ⟨tb, rfl, HTB, HNB, HBK⟩ := hcut
                have HBX2 := Lib.hid (HBJ.out.trans (HBK.out.mono HBJ.out.size))
                cases tb with
                | true =>
                  obtain ⟨hjl, hjt⟩ := HTB.out rfl
                  have HFN := Lib.hid (lt_next HFL.out hjt)
                  have hj160 : j ≤ 160 := by have := HOL.out; omega
                  clear hjt
                  cases gk with
                  | zero => exact absurd hjl (by omega)
                  | succ g3 =>
                    go_wp2_with fail
                    go_roundg g3
                    case measure => omega
                    case rel => exact ⟨j + 1, by omega, by go_num, HFN, HBX2⟩
                | false =>
                  have HNL := Lib.hid (HNB.out rfl)
                  have HBC := Lib.hid (HB1.out.trans (HBX2.out.mono HB1.out.size))
                  have HWC := Lib.hid (show w.heap.size ≤ wc.heap.size from Nat.le_trans HWW.out HBX2.out.size)
                  have HXL := Lib.hid (show wo.heap.size + 1 < wc.heap.size from Nat.lt_of_lt_of_le HXL1.out HBX2.out.size)
                  have HRC := Lib.hid (show RTri wc wc.heap.size A1 out from (HR1.out.below HBX2.out).more HBX2.out.size)
                  clear e0 e1 e2
                  have e0 := (HBX2.out.cell (p := ⟨wo.heap.size + 1, k2 * 3, none⟩) HXL1.out).trans HF0.out
                  have e1 := (HBX2.out.cell (p := ⟨wo.heap.size + 1, k2 * 3 + 1, none⟩) HXL1.out).trans HF1.out
                  have e2 := (HBX2.out.cell (p := ⟨wo.heap.size + 1, k2 * 3 + 2, none⟩) HXL1.out).trans HF2.out
                  have hjc : (j : Int) ≤ (c1 : Int) := by omega
                  have hjl : (j : Int) ≤ (out.length : Int) := by omega
                  have hj0 : (0 : Int) ≤ (j : Int) := by omega
                  rcases HO1.out.form with ⟨hA0, hL0⟩ | ⟨g1, hA1, hg1, hg2⟩
                  · skip
                    subst hA0 hL0
                    obtain rfl : j = 0 := by simp at hjl; omega
                    have HN := Lib.hid (show UpT ([] ++ [((pa : Int), (pb : Int), (pc : Int))] ++ []) ∧ ([] ++ [((pa : Int), (pb : Int), (pc : Int))] ++ []).Perm (((bothL (l.take k)).filter fun j => canJ j p) ++ ((twoL (x, y, z)).take (k2 + 1)).filter fun j => canJ j p) from ⟨by simp [UpT], put_next (at_ := 0) HU.out.2 HJ.out HCJ.out⟩)
                    go_wp2_with (first
                      | (at_builtin; refine wpList_addT _ rfl _ _ rfl (OwnT.alloc (OwnT.nil_ 30 wc wc.heap.size) _) rfl wc.heap.size _ pa pb pc rfl (Box.new _ _ _) ?_ ?_ ?_; (simp); (simp); intro v4 w4 ho4 hg4; have hb4 := ((Below.refl wc.heap.size wc).alloc (Nat.le_refl _) (Obj.cells #[Value.int .i64 pa, Value.int .i64 pb, Value.int .i64 pc] 30)).grown hg4 (by simp) (fun i hi => by cases hi))
                      | (at_builtin; refine wpList_appT _ rfl _ _ rfl ho4 rfl none 0 [] _ w4.heap.size rfl rfl RTri.nil_ ?_ ?_ ?_; (simp); (exact hb4.size); intro v5 w5 ho5 hg5; have hk4 := ho4.blk; have hb5 := hb4.grown hg5 hb4.size (fun i hi => (hk4 i hi).1)))
                    all_goals
                      have HO5 := Lib.hid (ho5.more (show w.heap.size ≤ wc.heap.size from HWC.out))
                      have HB5 := Lib.hid (HBC.out.trans (hb5.mono HBC.out.size))
                      clear hb5 ho5 hk4 hb4 ho4 hg4 hg5
                      go_roundg g2
                      case measure => omega
                      case rel => exact ⟨k2 + 1, v5, [] ++ [((pa : Int), (pb : Int), (pc : Int))] ++ [], by omega, rfl, by go_num, HN, HO5, HB5⟩
                  · skip
                    subst hA1
                    have HT1 := Lib.hid (show j = (out.take j).length by simp; omega)
                    have HT2 := Lib.hid (show ([] : List Tri).length + (out.take j).length ≤ 1000000 by have := HOL.out; simp; omega)
                    have HT3 := Lib.hid (show ([] ++ out.take j : List Tri).length ≤ 1000000 by have := HOL.out; simp; omega)
                    have HT4 := Lib.hid (show out.length - j = (out.drop j).length by simp)
                    have HT5 := Lib.hid (show ([] ++ out.take j ++ [((pa : Int), (pb : Int), (pc : Int))] : List Tri).length + (out.drop j).length ≤ 1000000 by have := HOL.out; simp; omega)
                    have hLj : j ≤ out.length := by omega
                    have HN := Lib.hid (show UpT ([] ++ out.take j ++ [((pa : Int), (pb : Int), (pc : Int))] ++ out.drop j) ∧ ([] ++ out.take j ++ [((pa : Int), (pb : Int), (pc : Int))] ++ out.drop j).Perm (((bothL (l.take k)).filter fun j => canJ j p) ++ ((twoL (x, y, z)).take (k2 + 1)).filter fun j => canJ j p) from ⟨HU.out.1.put hLj HFL.out HNL.out, put_next (at_ := j) HU.out.2 HJ.out HCJ.out⟩)
                    go_wp2_with (first
                      | (at_builtin; refine wpList_appT _ rfl _ _ rfl (OwnT.nil_ 30 wc wc.heap.size) rfl (some ⟨g1, 0, none⟩) j (out.take j) c1 wc.heap.size rfl HT1.out (HRC.out.take j) HT2.out (Nat.le_refl _) ?_; intro v3 w3 ho3 hg3; have hb3 := (Below.refl wc.heap.size wc).grown hg3 (Nat.le_refl _) (fun k hk => by cases hk); have z0 := (hb3.cell (p := ⟨wo.heap.size + 1, k2 * 3, none⟩) HXL.out).trans e0; have z1 := (hb3.cell (p := ⟨wo.heap.size + 1, k2 * 3 + 1, none⟩) HXL.out).trans e1; have z2 := (hb3.cell (p := ⟨wo.heap.size + 1, k2 * 3 + 2, none⟩) HXL.out).trans e2)
                      | (at_builtin; refine wpList_addT _ rfl _ _ rfl (OwnT.alloc ho3 _) rfl w3.heap.size _ pa pb pc rfl (Box.new _ _ _) HT3.out ?_ ?_; (have := hb3.size; simp; omega); intro v4 w4 ho4 hg4; have hk3 := ho3.blk; have hb4 := (hb3.alloc hb3.size (Obj.cells #[Value.int .i64 pa, Value.int .i64 pb, Value.int .i64 pc] 30)).grown hg4 (by have := hb3.size; simp; omega) (fun i hi => (hk3 i hi).1))
                      | (at_builtin; refine wpList_appT _ rfl _ _ rfl ho4 rfl _ (out.length - j) (out.drop j) _ w4.heap.size rfl HT4.out (RTri.dropIf ((HRC.out.below hb4).more hb4.size) hc1) HT5.out hb4.size ?_; intro v5 w5 ho5 hg5; have hk4 := ho4.blk; have hb5 := hb4.grown hg5 hb4.size (fun i hi => (hk4 i hi).1)))
                    all_goals
                      have HO5 := Lib.hid (ho5.more (show w.heap.size ≤ wc.heap.size from HWC.out))
                      have HB5 := Lib.hid (HBC.out.trans (hb5.mono HBC.out.size))
                      clear hb5 ho5 hk4 hb4 ho4 hg4 hg5
                      go_roundg g2
                      case measure => omega
                      case rel => exact ⟨k2 + 1, v5, [] ++ out.take j ++ [((pa : Int), (pb : Int), (pc : Int))] ++ out.drop j, by omega, rfl, by go_num, HN, HO5, HB5⟩
end Go.Proofs.Ythbhengcinkepaa
