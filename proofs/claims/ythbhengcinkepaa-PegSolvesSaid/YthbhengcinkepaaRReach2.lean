/- The reference's Reached (package peg): the search by breadth, over a table of bools. -/
import Derived.Test.YthbhengcinkepaaRJumps
import Derived.Test.YthbhengcinkepaaRowI
import Derived.Test.YthbhengcinkepaaGames
import Derived.Test.YthbhengcinkepaaPg12
namespace Go.Proofs.Ythbhengcinkepaa
open Go.RowKit Lamp

theorem addJ_yes {u : Nat} {Q : List (Nat × Tri)} {j : Tri} (h : hasQ Q (fromJ j u) = true) : addJ u Q j = Q := by unfold addJ; rw [if_pos h]
theorem addJ_no {u : Nat} {Q : List (Nat × Tri)} {j : Tri} (h : hasQ Q (fromJ j u) = false) : addJ u Q j = Q ++ [(fromJ j u, j)] := by unfold addJ; rw [if_neg (by simp [h])]
theorem hasQ_put {P x : Nat} {Q : List (Nat × Tri)} (j : Tri) : (boolC P (hasQ Q)).setIfInBounds x (.bool true) = boolC P (hasQ (Q ++ [(x, j)])) := by
  rw [boolC_put]
  refine boolC_same fun y _ => ?_
  rw [hasQ_app]
  by_cases e : y = x
  · subst e; simp [hasQ]
  · simp [hasQ, e, Ne.symm e]
theorem natV_posL_at {Q : List (Nat × Tri)} {k : Nat} {e : Nat × Tri} (h : Q[k]? = some e) : (natV (posL Q))[k]? = some ((e.1 : Nat) : Int) := by
  unfold natV posL
  rw [List.getElem?_map, List.getElem?_map, h]; rfl
theorem addP_len (u : Nat) (js : List Tri) (k : Nat) (Q : List (Nat × Tri)) : (addP u Q (js.take k)).length ≤ (addP u Q js).length := (addP_mono u Q (List.take_prefix k js)).length_le
theorem addP_take {u k : Nat} {js : List Tri} {j : Tri} (Q : List (Nat × Tri)) (h : js[k]? = some j) : addP u Q (js.take (k + 1)) = addJ u (addP u Q (js.take k)) j := by
  have h3 := List.getElem?_eq_some_iff.1 h
  rw [List.take_succ_eq_append_getElem h3.1, h3.2, addP_snoc]

theorem hasQ_put0 {P x : Nat} (j : Tri) : (boolC P fun _ => false).setIfInBounds x (.bool true) = boolC P (hasQ [(x, j)]) := hasQ_put (Q := []) j
theorem lenQ (Q : List (Nat × Tri)) : (natV (posL Q)).length = Q.length := by simp [natV, posL]
theorem RTri.turnX {w w' : World} {A : Option Addr} {l : List Tri} {X : Nat → Prop} (h : RTri w w.heap.size A l) (hT : Turn X w w') (hA : ∀ b o, A = some ⟨b, o, none⟩ → ¬ X b) : RTri w' w'.heap.size A l := fun j u hu => by
  obtain ⟨b, o, e, hb, hc⟩ := h j u hu
  exact ⟨b, o, e, Nat.lt_of_lt_of_le hb hT.size, (hT.cell (p := ⟨b, o + j, none⟩) hb (hA b o e)).trans hc⟩

theorem keep4 {w W : World} {p q r t : Addr} {u v x y : Value} (h1 : w.cell? p = some u) (h2 : w.cell? q = some v) (h3 : w.cell? r = some x) (h4 : w.cell? t = some y) (hp : p.block < w.heap.size) (hq : q.block < w.heap.size) (hr : r.block < w.heap.size) (ht : t.block < w.heap.size) (hb : Below w.heap.size w W) :
    W.cell? p = some u ∧ W.cell? q = some v ∧ W.cell? r = some x ∧ W.cell? t = some y ∧ Below w.heap.size w W := ⟨(hb.cell hp).trans h1, (hb.cell hq).trans h2, (hb.cell hr).trans h3, (hb.cell ht).trans h4, hb⟩
theorem keepB {w W W2 : World} (hb : Below w.heap.size w W) (h : Below W.heap.size W W2) : Below w.heap.size w W2 := hb.trans (h.mono hb.size)

set_option maxRecDepth 100000 in
set_option maxHeartbeats 8000000 in
theorem RReached2_any (A : Option Addr) (c n p : Nat) (l : List Tri) (w : World) (hr : RTri w w.heap.size A l) (hc : checkT n l = 0) (hp : p < 2 ^ n) :
    Calls Try.prog 25 #[.int .i64 n, .slice A l.length c, .int .i64 p] w fun e w' => ∃ g, e = .returned (.slice (some ⟨g, 0, none⟩) (2 ^ n) (2 ^ n)) ∧ Box w' g 4 (boolC (2 ^ n) (hasQ (reachL (jumpsL l) p))) ∧ w.heap.size ≤ g ∧ Below w.heap.size w w' := by
  obtain ⟨hn1, hn16, hl, hg⟩ := checkT_zero hc
  have hn : n ≤ 16 := by omega
  have hok := goodT_ok hg
  have hall := jumpsL_ok hok
  have HR := Lib.hid hr
  have HLEN := Lib.hid (fun i => bfsK_len (p := p) hall hp i)
  have HLT := Lib.hid (fun i => bfsK_lt (p := p) hall hp i)
  have HEND := Lib.hid (fun i (h : (bfsK (jumpsL l) p i).length ≤ i) => reachL_end hn hall hp h)
  have HALL := Lib.hid hall
  have hp16 := pow_split hn
  have hp0 := Nat.two_pow_pos n
  have hpi : (2 : Int) ^ n = ((2 ^ n : Nat) : Int) := by simp
  have HRJ := Lib.hid (fun (w1 : World) (u : Nat) (h : RTri w1 w1.heap.size A l) (hu : u < 65536) => RJumps_any A c n u l w1 h hl hn hok hu)
  have HNX := Lib.hid (fun i e (h : (bfsK (jumpsL l) p i)[i]? = some e) => bfsK_next h)
  have HB0 := Lib.hid (show bfsK (jumpsL l) p 0 = [(p, (0, 0, 0))] from rfl)
  obtain ⟨P, hP⟩ : ∃ P, 2 ^ n = P := ⟨_, rfl⟩
  have hP2 : (2 : Int) ^ n = (P : Int) := by rw [hpi, hP]
  have HPN := Lib.hid hP
  rw [hP] at hp16 hp0 HLEN HLT hp
  rw [hP]
  have hwP2 : wrap64 (P : Int) = (P : Int) := w64 (by omega)
  have hpP : (p : Int) < (P : Int) := by omega
  have HJL := Lib.hid (show (jumpsL l).length ≤ 80 by rw [jumpsL_len]; omega)
  obtain ⟨J, hJ⟩ : ∃ J, jumpsL l = J := ⟨_, rfl⟩
  rw [hJ] at HLEN HLT HEND HALL HRJ HNX HB0 HJL ⊢
  have hmk := make_bools P (by omega)
  have hbx0 := Box.new w 4 (boolC P fun _ => false)
  have c0 := hbx0.cell p
  rw [boolC_at hp] at c0
  have f0 := hbx0.free p
  have HFR := Lib.hid (fun (u : Nat) (hu : u < P) (j : Tri) (hj : j ∈ J) => show fromJ j u < P by rw [← HPN.out] at hu ⊢; exact Nat.xor_lt_two_pow hu (holesM_lt (HALL.out j hj)))
  have hbx1 := Box.new w 4 (boolC P (hasQ (bfsK J p 0)))
  have HBX1 := Lib.hid hbx1
  have HB1 := Lib.hid ((Below.refl w.heap.size w).alloc (Nat.le_refl _) (Obj.cells (boolC P (hasQ (bfsK J p 0))) 4))
  clear hr hc hg hok hall hpi hP hJ hbx0 hbx1
  go_enter Try.func25, Try.ntmps25
  go_wp2_with fail
  clear c0 f0 hmk
  rw [hasQ_put0 (0, 0, 0), ← HB0.out]
  obtain ⟨wa, hwa⟩ : ∃ wa, w.alloc (Obj.cells (boolC P (hasQ (bfsK J p 0))) 4) = wa := ⟨_, rfl⟩
  have hsa : wa.heap.size = w.heap.size + 1 := by rw [← hwa]; simp
  rw [hwa] at HBX1 HB1 ⊢
  rw [← hsa]
  have hbr := Box.new wa 3 #[Value.int .i64 (p : Nat)]
  have HRW0 := Lib.hid (show OwnP 3 (wa.alloc (Obj.cells #[Value.int .i64 (p : Nat)] 3)) (w.heap.size + 1) (.slice (some ⟨wa.heap.size, 0, none⟩) 1 1) (natV (posL (bfsK J p 0))) by
    rw [HB0.out]
    exact ⟨by simp [natV, posL], .inr ⟨wa.heap.size, 1, _, rfl, by omega, hbr, by simp [natV, posL], by decide, by simp, by simp [natV, posL]⟩⟩)
  have HBX2 := Lib.hid (HBX1.out.alloc (Obj.cells #[Value.int .i64 (p : Nat)] 3))
  have HB2 := Lib.hid (HB1.out.alloc HB1.out.size (Obj.cells #[Value.int .i64 (p : Nat)] 3))
  clear hwa hsa hbr HB1 HBX1
  go_loopg [8, 9] P (fun g lv iv ws => ∃ (k : Nat) (v : Value), k + g = P ∧ v = lv ∧ iv = .int .i64 k ∧ k ≤ (bfsK J p k).length ∧ Hid (Box ws w.heap.size 4 (boolC P (hasQ (bfsK J p k)))) ∧ Hid (OwnP 3 ws (w.heap.size + 1) v (natV (posL (bfsK J p k)))) ∧ Hid (Below w.heap.size w ws))
  case atStart => exact ⟨0, _, by omega, rfl, rfl, Nat.zero_le _, HBX2, HRW0, HB2⟩
  case round =>
    clear HBX2 HRW0 HB2
    obtain ⟨k, v, hk, rfl, rfl, hkl, HT1, HO1, HB1⟩ := hrel
    have HT := HT1
    have HO := HO1
    have HB := HB1
    clear HT1 HO1 HB1
    have hQP := HLEN.out k
    have HNXK := Lib.hid (fun e h => HNX.out k e h)
    have HLTK := Lib.hid (HLT.out k)
    have HENK := Lib.hid (HEND.out k)
    have HLN2 := Lib.hid (HLEN.out (k + 1))
    obtain ⟨Q, hQ⟩ : ∃ Q, bfsK J p k = Q := ⟨_, rfl⟩
    rw [hQ] at hQP hkl HT HO HNXK HLTK HENK
    obtain ⟨A8, c8, hv, hrd⟩ := HO.out.reads
    rw [lenQ] at hv
    subst hv
    by_cases hlt : k < Q.length
    · cases gk with
      | zero => exact absurd hlt (by omega)
      | succ g =>
        obtain ⟨e, he⟩ : ∃ e, Q[k]? = some e := ⟨_, List.getElem?_eq_getElem hlt⟩
        have hue := HLTK.out e (List.mem_of_getElem? he)
        obtain ⟨b, o, z, hA, hb, hz, hc⟩ := hrd.at_ (k := k) (by rw [lenQ]; exact hlt)
        rw [natV_posL_at he] at hz
        obtain rfl : ((e.1 : Nat) : Int) = z := Option.some.inj hz
        have HNE := Lib.hid (HNXK.out e he)
        obtain ⟨u, hu⟩ : ∃ u, e.1 = u := ⟨_, rfl⟩
        rw [hu] at hc HNE hue
        have HUE := Lib.hid hu
        have HE := Lib.hid he
        have hlt' : (k : Int) < (Q.length : Int) := by omega
        have HRX := Lib.hid (HRJ.out wr u (HR.out.up HB.out) (by omega))
        subst hA
        clear hz hrd hu he
        go_wp2_with fail
        refine HRX.out.mono ?_
        rintro e9 w1 ⟨vj, rfl, hoj, hbj⟩
        obtain ⟨js, hjs⟩ : ∃ js, (J.filter fun j => canJ j u) = js := ⟨_, rfl⟩
        have HJI := Lib.hid (show ∀ j ∈ js, j ∈ J ∧ canJ j u = true from fun j hj => by rw [← hjs, List.mem_filter] at hj; exact hj)
        rw [hjs] at hoj HNE
        have HAB := Lib.hid (show ∀ g2, (Value.slice (some ⟨b, o, none⟩) Q.length c8).ownBlock = some g2 → g2 < wr.heap.size from fun g2 h => (HO.out.blk g2 h).2.1)
        obtain ⟨Aj, cj, rfl, hcj, hrj, hblj⟩ := hoj.caps
        have HAJ := Lib.hid (show ∀ b o, Aj = some ⟨b, o, none⟩ → wr.heap.size ≤ b ∧ b < w1.heap.size from fun b o h => ⟨(hblj b o h).1, (hblj b o h).2.1⟩)
        have HRJ1 := Lib.hid hrj
        have HT1 := Lib.hid (HT.out.below hbj HT.out.lt)
        have HO1 := Lib.hid (HO.out.below hbj (fun g2 h => (HO.out.blk g2 h).2.1))
        have HB1 := Lib.hid (HB.out.trans (hbj.mono HB.out.size))
        have HTL := Lib.hid HT.out.lt
        have HWR := Lib.hid hbj.size
        have hj80 : js.length ≤ 80 := by
          have h1 := List.length_filter_le (fun j => canJ j u) J
          rw [hjs] at h1
          have h2 := HJL.out
          omega
        clear hjs hoj hbj hrj hblj hc HT HO hcj
        go_wp2_with fail
        go_loopg [8, 11] js.length (fun g lv iv ws => ∃ (m : Nat) (v : Value), m + g = js.length ∧ v = lv ∧ iv = .int .i64 m ∧ Hid (Box ws w.heap.size 4 (boolC P (hasQ (addP u Q (js.take m))))) ∧ Hid (OwnP 3 ws (w.heap.size + 1) v (natV (posL (addP u Q (js.take m))))) ∧ Hid (Below w.heap.size w ws) ∧ Hid (RTri ws ws.heap.size Aj js) ∧ Hid (∀ b o, Aj = some ⟨b, o, none⟩ → v.ownBlock ≠ some b ∧ b ≠ w.heap.size ∧ b < ws.heap.size))
        case atStart =>
          refine ⟨0, _, by omega, rfl, rfl, HT1, HO1, HB1, HRJ1, Lib.hid fun b2 o2 h => ⟨fun h2 => ?_, ?_, (HAJ.out b2 o2 h).2⟩⟩
          · have := HAB.out b2 h2; have := (HAJ.out b2 o2 h).1; omega
          · have := (HAJ.out b2 o2 h).1; have := HTL.out; omega
        case round =>
          clear HT1 HO1 HB1 HRJ1
          obtain ⟨m, v, hm, rfl, rfl, HT2, HO2, HB2, HR2, HA2⟩ := hrel
          have HT := HT2
          have HO := HO2
          have HBM := HB2
          have HRM := HR2
          have HAM := HA2
          clear HT2 HO2 HB2 HR2 HA2
          cases gk with
          | zero =>
            obtain rfl : m = js.length := by omega
            have HN := Lib.hid (show addP u Q (js.take js.length) = bfsK J p (k + 1) by rw [List.take_length, HNE.out])
            rw [HN.out] at HT HO
            go_wp2_with fail
            go_roundg g
            case measure => omega
            case rel => exact ⟨k + 1, v, by omega, rfl, by go_num, by have h9 := (bfsK_pre J p k).length_le; rw [hQ] at h9; omega, HT, HO, HBM⟩
          | succ g2 =>
            have hml : m < js.length := by omega
            obtain ⟨b', o', xa, xb, xc, hA', hb', hj, d0, d1, d2⟩ := HRM.out.at_ hml
            subst hA'
            obtain ⟨hjJ, hcj⟩ := HJI.out _ (List.mem_of_getElem? hj)
            obtain ⟨pa, pb, pc, hE, hpa, hpb, hpc, hab, hac, hbc⟩ := (HALL.out _ hjJ).nats
            cases hE
            have hadd := addP_take (u := u) Q hj
            have hx := HFR.out u hue _ hjJ
            have hrj2 := fun w2 => RJump_any pa pb pc u w2 (by omega) (by omega) (by omega) (by omega) hab hac hbc
            rw [hcj] at hrj2
            have hlq : (addP u Q (js.take m)).length ≤ P := by
              have h1 := addP_len u js m Q
              rw [← HNE.out] at h1
              have h2 := HLN2.out
              omega
            have hkq : (addP u Q (js.take m))[k]? = some e := by
              obtain ⟨R, hR⟩ := addP_pre u (js.take m) Q
              rw [← hR, List.getElem?_append_left hlt]
              exact HE.out
            obtain ⟨Q', hQ'⟩ : ∃ Q', addP u Q (js.take m) = Q' := ⟨_, rfl⟩
            rw [hQ'] at hadd hlq hkq HT HO
            obtain ⟨A9, c9, hv9, hrd9⟩ := HO.out.reads
            rw [lenQ] at hv9
            subst hv9
            have hkl9 : k < Q'.length := (List.getElem?_eq_some_iff.1 hkq).1
            obtain ⟨b3, o3, z3, hA3, hb3, hz3, hc3⟩ := hrd9.at_ (k := k) (by rw [lenQ]; exact hkl9)
            rw [natV_posL_at hkq, HUE.out] at hz3
            obtain rfl : ((u : Nat) : Int) = z3 := Option.some.inj hz3
            subst hA3
            have hkq9 : (k : Int) < (Q'.length : Int) := by omega
            have hmj9 : (m : Int) < (js.length : Int) := by omega
            obtain ⟨x, hxe⟩ : ∃ x, fromJ ((pa : Int), (pb : Int), (pc : Int)) u = x := ⟨_, rfl⟩
            have HXE := Lib.hid hxe
            rw [hxe] at hx hrj2
            have HRJ2 := Lib.hid hrj2
            have HADD := Lib.hid hadd
            have HWS := Lib.hid HB.out.size
            clear hz3 hrd9 hkq hQ' hadd hrj2 hxe hj hcj hjJ hlt' hkl hab hac hbc
            go_upto_region 11 with fail
            have HC3 := Lib.hid hc3
            have HD0 := Lib.hid d0
            have HD1 := Lib.hid d1
            have HD2 := Lib.hid d2
            go_cut [12, 13] (fun v12 v13 wx => v12 = .int .i64 (x : Nat) ∧ v13 = .bool true ∧ Hid (Below wr.heap.size wr wx))
            case first =>
              go_region_held3 (fun w' => w'.cell? ⟨b3, o3 + k, none⟩ = some (.int .i64 u) ∧ w'.cell? ⟨b', o' + m * 3, none⟩ = some (.int .i64 pa) ∧ w'.cell? ⟨b', o' + m * 3 + 1, none⟩ = some (.int .i64 pb) ∧ w'.cell? ⟨b', o' + m * 3 + 2, none⟩ = some (.int .i64 pc) ∧ Below wr.heap.size wr w') ((refine keep4 HC3.out HD0.out HD1.out HD2.out hb3 hb' hb' hb' ?_; first | exact Below.refl _ _ | exact (Below.refl _ _).drew | exact hb))
                ((go_at_call 24; refine (HRJ2.out _).mono ?_; rintro e w' ⟨rfl, hb⟩; replace hb := keepB (w := wr) (by first | exact Below.refl _ _ | exact (Below.refl _ _).drew) hb))
              all_goals
                go_wp2_with fail
                go_meet
                exact ⟨rfl, rfl, Lib.hid hb⟩
            case rest =>
            obtain ⟨rfl, rfl, HBX⟩ := hcut
            obtain ⟨w4, rfl⟩ : ∃ w4 : World, w4 = wc := ⟨_, rfl⟩
            have hb4 := HBX.out
            clear HBX HC3 HD0 HD1 HD2
            have HT4 := Lib.hid (HT.out.below hb4 HT.out.lt)
            have HO4 := Lib.hid (HO.out.below hb4 (fun g3 h => (HO.out.blk g3 h).2.1))
            have HB4 := Lib.hid (HBM.out.trans (hb4.mono HBM.out.size))
            have HR4 := Lib.hid ((HRM.out.below hb4).more hb4.size)
            have HS4 := Lib.hid hb4.size
            have c4 := HT4.out.cell x
            rw [boolC_at hx] at c4
            have f4 := HT4.out.free x
            have hxi : (x : Int) < (P : Int) := by omega
            clear hb4 d0 d1 d2 hc3 HT HO HBM HRM
            cases hq : hasQ Q' x with
            | true =>
              rw [hq] at c4
              have HN := Lib.hid (show addP u Q (js.take (m + 1)) = Q' by rw [HADD.out]; exact addJ_yes (by rw [HXE.out]; exact hq))
              clear hq
              go_wp2_with fail
              go_roundg g2
              case measure => omega
              case rel => exact ⟨m + 1, _, by omega, rfl, by go_num, by rw [HN.out]; exact HT4, by rw [HN.out]; exact HO4, HB4, HR4, Lib.hid fun b2 o2 h => ⟨(HAM.out b2 o2 h).1, (HAM.out b2 o2 h).2.1, Nat.lt_of_lt_of_le (HAM.out b2 o2 h).2.2 HS4.out⟩⟩
            | false =>
              rw [hq] at c4
              have HN := Lib.hid (show addP u Q (js.take (m + 1)) = Q' ++ [(x, ((pa : Int), (pb : Int), (pc : Int)))] by rw [HADD.out, addJ_no (by rw [HXE.out]; exact hq), HXE.out])
              clear hq
              have hTs : Turn (fun b => b = w.heap.size) w4 (w4.setCell ⟨w.heap.size, x, none⟩ (.bool true)) := (Turn.refl (fun b => b = w.heap.size) w4).setCell (p := ⟨w.heap.size, x, none⟩) (.inl rfl) _
              have ho5 := HO4.out.turn hTs (fun g3 hg h => by have := (HO4.out.blk g3 hg).1; omega)
              have ht5 := HT4.out.put x (.bool true)
              rw [hasQ_put ((pa : Int), (pb : Int), (pc : Int))] at ht5
              have hr5 := HR4.out.turnX hTs (fun b2 o2 h => (HAM.out b2 o2 h).2.1)
              have hb5 := HB4.out.setCell (p := ⟨w.heap.size, x, none⟩) (Nat.le_refl _) (.bool true)
              have hs5 : (w4.setCell ⟨w.heap.size, x, none⟩ (.bool true)).heap.size = w4.heap.size := by simp
              go_upto_region 14 with fail
              obtain ⟨w5, hw5⟩ : ∃ w5, w4.setCell ⟨w.heap.size, x, none⟩ (.bool true) = w5 := ⟨_, rfl⟩
              rw [hw5] at ho5 ht5 hr5 hb5 hs5 ⊢
              have HO5 := Lib.hid ho5
              have HT5 := Lib.hid ht5
              have HR5 := Lib.hid hr5
              have HB5 := Lib.hid hb5
              have HS5 := Lib.hid hs5
              clear hw5 hTs ho5 ht5 hr5 hb5 hs5 c4 f4 HT4 HO4 HB4 HR4
              go_wp2_with (at_builtin; refine wpList_addI _ rfl _ _ rfl (HO5.out.alloc _) rfl w5.heap.size 1 (x : Nat) rfl (Box.new w5 3 #[Value.int .i64 (x : Nat)]) (by rw [lenQ]; omega) (by have := HB5.out.size; have := HT5.out.lt; simp; omega) ?_; intro v7 w7 ho7 hg7 hor7)
              have hT7 : Turn (fun b => (Value.slice (some ⟨b3, o3, none⟩) Q'.length c9).ownBlock = some b) w5 w7 := ((Turn.refl _ w5).alloc _).grown hg7 (fun k3 hk3 => .inl hk3)
              have HT7 := Lib.hid (HT5.out.turn hT7 (fun h => by have := (HO5.out.blk _ h).1; omega))
              have HB7 := Lib.hid (HB5.out.trans (hT7.toBelow HB5.out.size (fun i hi h => by have := (HO5.out.blk _ h).1; omega)))
              have HR7 := Lib.hid (HR5.out.turnX hT7 (fun b2 o2 h => (HAM.out b2 o2 h).1))
              have HO7 := Lib.hid (show OwnP 3 w7 (w.heap.size + 1) v7 (natV (posL (Q' ++ [(x, ((pa : Int), (pb : Int), (pc : Int)))]))) by rw [posL_app, natV, List.map_append]; exact ho7)
              have HA7 := Lib.hid (show ∀ b o, some (⟨b', o', none⟩ : Addr) = some ⟨b, o, none⟩ → v7.ownBlock ≠ some b ∧ b ≠ w.heap.size ∧ b < w7.heap.size from fun b2 o2 h => by
                obtain ⟨h1, h2, h3⟩ := HAM.out b2 o2 h
                have h4 := HS4.out
                have h5 := HS5.out
                have h6 := hT7.size
                refine ⟨fun h7 => ?_, h2, by omega⟩
                rcases hor7 with h8 | h8
                · exact h1 (h8.symm.trans h7)
                · rw [h8] at h7
                  have h7 := Option.some.inj h7
                  simp at h7
                  omega)
              clear ho7 hg7 hor7 hT7
              go_roundg g2
              case measure => omega
              case rel => exact ⟨m + 1, v7, by omega, rfl, by go_num, by rw [HN.out]; exact HT7, by rw [HN.out]; exact HO7, HB7, HR7, HA7⟩
    · obtain rfl : k = Q.length := by omega
      have hge : ¬ (Q.length : Int) < (Q.length : Int) := by omega
      have hgd : decide ((Q.length : Int) < (Q.length : Int)) = false := decide_eq_false hge
      have HR9 := Lib.hid (show Q = reachL J p by rw [← HENK.out (Nat.le_refl _)])
      clear hrd hQ
      go_wp2_with fail
      go_ret
      exact ⟨w.heap.size, rfl, by rw [← HR9.out]; exact HT.out, Nat.le_refl _, HB.out⟩
end Go.Proofs.Ythbhengcinkepaa
