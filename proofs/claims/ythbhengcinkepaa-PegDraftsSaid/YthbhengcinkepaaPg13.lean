/- The search by breadth, as an iterator: it hands out what is found, in its order. -/
import Derived.Test.YthbhengcinkepaaPg12
namespace Go.Proofs.Ythbhengcinkepaa
open Go.RowKit Go.Shelf Lamp

attribute [local go_sem] Oper.semAt_some

set_option maxRecDepth 100000 in
set_option maxHeartbeats 8000000 in
theorem reached_seq (Bp Ba n p c : Nat) (A : Option Addr) (L : List Tri) (D : Nat → Prop) (W1 : World) (hn : n ≤ 16) (hp : p < 2 ^ n) (hok : LinesOk n L) (hl : L.length ≤ 1000000) (hbp : Box W1 Bp 3 #[.int .i64 p]) (hba : Box W1 Ba 102 #[.slice A L.length c]) (hr : RTri W1 W1.heap.size A L) (hA : ∀ b o, A = some ⟨b, o, none⟩ → D b) (hDp : D Bp) (hDa : D Ba) (hDs : ∀ b, D b → b < W1.heap.size) :
    SeqT IsReach Try.prog 108 #[.pointer (some ⟨Bp, 0, none⟩), .pointer (some ⟨Ba, 0, none⟩)] D (reachL L p) W1 := by
  intro l J S hJ0 hJe hJ hS hY
  have hp16 : p < 65536 := Nat.lt_of_lt_of_le hp (Nat.pow_le_pow_right (n := 2) (by decide) hn)
  have HBP := Lib.hid hbp
  have HBA := Lib.hid hba
  have HR := Lib.hid hr
  have HJ0 := Lib.hid hJ0
  have HJE := Lib.hid hJe
  have HJT := Lib.hid hJ
  have HST := Lib.hid hS
  have HY := Lib.hid hY
  have HK := Lib.hid hok
  have HAD := Lib.hid hA
  have HDS := Lib.hid hDs
  have HPN := Lib.hid hp
  have hlp := hbp.lt
  have hla := hba.lt
  have hcp := hbp.cell 0
  simp only [List.getElem?_toArray, List.getElem?_cons_zero] at hcp
  clear hbp hba hr hJ0 hJe hJ hS hY hok hA hDs hp
  refine (callsIn_wide (n := 4)).1 ?_
  refine callsIn_of_wp_marks Try.func108 rfl trivial ?_ rfl
  simp only [Try.ntmps108, List.size_toArray, List.length_cons, List.length_nil, Nat.reduceAdd, Nat.reduceSub, Array.replicate_succ, Array.replicate_zero, List.push_toArray, List.append_toArray, List.nil_append, List.cons_append]
  gi_wp2
  refine wpIn_scope ?_
  obtain ⟨cs, hcs, hrun⟩ := marks_new
  refine wpIn_seq (wpIn_alloc _ 164 rfl rfl (by rfl) (hrun _) rfl ?_)
  have HCS := Lib.hid hcs
  clear hrun hcs hcp
  simp only [Act.put, List.setIfInBounds_toArray, List.set_cons_zero, List.set_cons_succ]
  rw [show (W1.alloc (Obj.cells #[Value.func (Fn.yield l) #[] #[]] 163)).heap.size = W1.heap.size + 1 by simp]
  have hbel : Below W1.heap.size W1 ((W1.alloc (Obj.cells #[Value.func (Fn.yield l) #[] #[]] 163)).alloc (Obj.cells cs 164)) := ((Below.refl _ W1).alloc (Nat.le_refl _) _).alloc (by simp) _
  have hbm := Box.new (W1.alloc (Obj.cells #[Value.func (Fn.yield l) #[] #[]] 163)) 164 cs
  rw [show (W1.alloc (Obj.cells #[Value.func (Fn.yield l) #[] #[]] 163)).heap.size = W1.heap.size + 1 by simp] at hbm
  have hby := (Box.new W1 163 #[Value.func (Fn.yield l) #[] #[]]).alloc (Obj.cells cs 164)
  have hss : ((W1.alloc (Obj.cells #[Value.func (Fn.yield l) #[] #[]] 163)).alloc (Obj.cells cs 164)).heap.size = W1.heap.size + 2 := by simp
  have hTu : Turn (fun b => b = W1.heap.size ∨ b = W1.heap.size + 1) W1 ((W1.alloc (Obj.cells #[Value.func (Fn.yield l) #[] #[]] 163)).alloc (Obj.cells cs 164)) := ((Turn.refl _ W1).alloc _).alloc _
  obtain ⟨Wb, hWb⟩ : ∃ Wb, (W1.alloc (Obj.cells #[Value.func (Fn.yield l) #[] #[]] 163)).alloc (Obj.cells cs 164) = Wb := ⟨_, rfl⟩
  rw [hWb] at hbel hbm hby hss hTu ⊢
  clear hWb
  have hcp := (HBP.out.below hbel hlp).cell 0
  have hcm := hbm.cell p
  rw [HCS.out.2 p hp16] at hcm
  have hfm := hbm.free p
  simp only [List.getElem?_toArray, List.getElem?_cons_zero] at hcp
  have hp0 : (0 : Int) ≤ (p : Int) := by omega
  have hp6 : (p : Int) < 65536 := by omega
  have HBM := Lib.hid hbm
  have HBY := Lib.hid hby
  have HBE := Lib.hid hbel
  have HTU := Lib.hid hTu
  have HSS := Lib.hid hss
  have HP16 := Lib.hid hp16
  have hix := marks_at (W1.heap.size + 1) p hp16
  clear hbm hby hbel hTu hss hp16 hp0 hp6
  have hcy2 := (HBY.out.far (p := ⟨W1.heap.size + 1, p, none⟩) (by show W1.heap.size ≠ _; simp) (.bool true)).cell 0
  have hcp2 := ((HBP.out.below HBE.out hlp).far (p := ⟨W1.heap.size + 1, p, none⟩) (by show Bp ≠ _; simp only []; omega) (.bool true)).cell 0
  simp only [List.getElem?_toArray, List.getElem?_cons_zero] at hcy2 hcp2
  have HS0 := Lib.hid (show Turn (fun b => b = W1.heap.size ∨ b = W1.heap.size + 1) W1 (Wb.setCell ⟨W1.heap.size + 1, p, none⟩ (.bool true)) from HTU.out.setCell (.inl (.inr rfl)) _)
  have HMK := Lib.hid (show Box (Wb.setCell ⟨W1.heap.size + 1, p, none⟩ (.bool true)) (W1.heap.size + 1) 164 (cs.setIfInBounds p (.bool true)) from HBM.out.put p _)
  have HYB := Lib.hid (show Box (Wb.setCell ⟨W1.heap.size + 1, p, none⟩ (.bool true)) W1.heap.size 163 #[Value.func (Fn.yield l) #[] #[]] from HBY.out.far (p := ⟨W1.heap.size + 1, p, none⟩) (by show W1.heap.size ≠ _; simp) _)
  have HJ1 := Lib.hid (HJT.out (fun b => b = W1.heap.size ∨ b = W1.heap.size + 1) [] W1 _ (HJE.out _ _ _ _ HJ0.out (fun b hb => .inr (by omega))) HS0.out)
  have HPRE := Lib.hid (show [] ++ [(p, ((0 : Int), (0 : Int), (0 : Int)))] <+: reachL L p from bfsK_mono L p (i := 0) (k := 65536) (by omega))
  have HSZ := Lib.hid (show (Wb.setCell ⟨W1.heap.size + 1, p, none⟩ (.bool true)).heap.size = W1.heap.size + 2 by simp; exact HSS.out)
  have HTD := Lib.hid (show Turn (fun b => ¬ D b) W1 (Wb.setCell ⟨W1.heap.size + 1, p, none⟩ (.bool true)) from HS0.out.imp fun i hi h => by omega)
  obtain ⟨Wc, hWc⟩ : ∃ Wc, Wb.setCell ⟨W1.heap.size + 1, p, none⟩ (.bool true) = Wc := ⟨_, rfl⟩
  rw [hWc] at hcy2 hcp2 HS0 HMK HYB HJ1 HSZ HTD
  obtain ⟨fn, tmps, assign, body, hy, hR⟩ := HY.out _ _ (p, ((0 : Int), (0 : Int), (0 : Int))) _ Wc HJ1.out rfl HPRE.out (fun b hb => by have := HSZ.out; omega)
  have hR := RoundIn.anyDepthE (m' := 3) hR
  gi_wp2
  refine hR.mono ?_
  clear hR hy
  rintro e W2 ⟨(⟨rfl, hJ2⟩ | ⟨rfl, hS2⟩), hT2⟩
  case inr =>
    have HS2 := Lib.hid hS2
    clear hS2 hcy2 hcp2
    gi_wp2
    rw [Exit.noGoto_ret]
    refine Marked.leaves (O := fun b => b = W1.heap.size ∨ b = W1.heap.size + 1) (ds := []) (fun W => results_none rfl _ _ _) trivial fun W' hT => ⟨rfl, _, .inr (HST.out _ _ _ HS2.out hT)⟩
  clear hcy2 hcp2 hix hWc
  have hsz2 := hT2.size
  have HJ2 := Lib.hid hJ2
  have HY2 := Lib.hid (HYB.out.turn hT2 (fun h => h (.inr (.inl rfl))))
  have HM2 := Lib.hid (HMK.out.turn hT2 (fun h => h (.inr (.inr rfl))))
  have HTD2 := Lib.hid (show Turn (fun b => ¬ D b) W1 W2 from HTD.out.trans hT2 fun i _ h hd => h (.inl hd))
  have hcp := (HBP.out.turn HTD2.out (fun h => h hDp)).cell 0
  simp only [List.getElem?_toArray, List.getElem?_cons_zero] at hcp
  have HZ2 := Lib.hid (show W1.heap.size + 2 ≤ W2.heap.size by have := HSZ.out; omega)
  --PART2
  clear hJ2 hT2 hsz2 HJ1 HS0 HTD HYB HMK HSZ HJ0 HSS HBM HBY HBE HTU
  gi_wp2
  refine wpIn_label ?_
  have hs3 : ((W2.alloc (Obj.cells #[Value.int IntKind.i64 p] 3)).alloc (Obj.cells #[Value.slice (some ⟨W2.heap.size, 0, none⟩) 1 1] 47)).heap.size = W2.heap.size + 2 := by simp
  have hr3 := (Box.new W2 3 #[Value.int IntKind.i64 p]).alloc (Obj.cells #[Value.slice (some ⟨W2.heap.size, 0, none⟩) 1 1] 47)
  have hl3 := Box.new (W2.alloc (Obj.cells #[Value.int IntKind.i64 p] 3)) 47 #[Value.slice (some ⟨W2.heap.size, 0, none⟩) 1 1]
  rw [show (W2.alloc (Obj.cells #[Value.int IntKind.i64 p] 3)).heap.size = W2.heap.size + 1 by simp] at hl3
  have hT3 : Turn (fun b => W2.heap.size ≤ b ∧ b < W2.heap.size + 3) W2 ((W2.alloc (Obj.cells #[Value.int IntKind.i64 p] 3)).alloc (Obj.cells #[Value.slice (some ⟨W2.heap.size, 0, none⟩) 1 1] 47)) := ((Turn.refl _ W2).alloc _).alloc _
  obtain ⟨W3, hW3⟩ : ∃ W3, (W2.alloc (Obj.cells #[Value.int IntKind.i64 p] 3)).alloc (Obj.cells #[Value.slice (some ⟨W2.heap.size, 0, none⟩) 1 1] 47) = W3 := ⟨_, rfl⟩
  rw [hW3] at hs3 hr3 hl3 hT3 ⊢
  clear hW3 hcp
  obtain ⟨bl, hbl⟩ : ∃ bl, W2.heap.size + 1 = bl := ⟨_, rfl⟩
  rw [hbl] at hl3 ⊢
  have HS3 := Lib.hid hs3
  have HR3 := Lib.hid hr3
  have HL3 := Lib.hid hl3
  have HT3 := Lib.hid hT3
  have HBL := Lib.hid hbl
  clear hs3 hr3 hl3 hT3 hbl
  gi_wp2
  have hs4 : (W3.alloc (Obj.cells #[Value.int IntKind.i64 0] 3)).heap.size = W3.heap.size + 1 := by simp
  have hi4 := Box.new W3 3 #[Value.int IntKind.i64 0]
  obtain ⟨W4, hW4⟩ : ∃ W4, W3.alloc (Obj.cells #[Value.int IntKind.i64 0] 3) = W4 := ⟨_, rfl⟩
  have hT4 : Turn (fun b => W2.heap.size ≤ b ∧ b < W2.heap.size + 3) W2 W4 := by rw [← hW4]; exact HT3.out.alloc _
  have hrow4 : OwnP 3 W4 (W1.heap.size + 2) (.slice (some ⟨W2.heap.size, 0, none⟩) 1 1) (natV (posL (bfsK L p 0))) := by
    rw [← hW4]
    exact ⟨by simp [natV, posL, bfsK], .inr ⟨W2.heap.size, 1, _, rfl, HZ2.out, HR3.out.alloc _, by simp [natV, posL, bfsK], by decide, by simp, by simp [natV, posL, bfsK]⟩⟩
  have HSR := Lib.hid (show Search l W1.heap.size bl W3.heap.size 0 (.slice (some ⟨W2.heap.size, 0, none⟩) 1 1) (bfsK L p 0) W4 from
    ⟨HY2.out.turn hT4 (by have := HZ2.out; omega), ⟨_, HM2.out.turn hT4 (by have := HZ2.out; omega), MarkOk.start HCS.out HP16.out _⟩, by rw [← hW4]; exact HL3.out.alloc _, hrow4, by rw [← hW4]; exact hi4, fun g e => by
      have : W2.heap.size = g := by simpa [Value.ownBlock] using e
      have := HS3.out
      omega⟩)
  have HJ4 := Lib.hid (show J (fun b => (b = W1.heap.size ∨ b = W1.heap.size + 1) ∨ (W2.heap.size ≤ b ∧ b < W2.heap.size + 3)) (bfsK L p 0) W4 from
    HJT.out _ _ _ _ (HJE.out _ _ _ _ HJ2.out fun b hb => hb.elim .inl fun h => .inr h.1) (hT4.imp fun i _ h => .inr h))
  have HT4 := Lib.hid (show Turn (fun b => ¬ D b) W1 W4 from HTD2.out.trans hT4 fun i hi h hd => by have := HDS.out i hd; have := HZ2.out; omega)
  have HZ4 := Lib.hid (show W4.heap.size = W2.heap.size + 3 by rw [← hW4, hs4]; have := HS3.out; omega)
  have HSB := Lib.hid (show W3.heap.size = W2.heap.size + 2 from HS3.out)
  rw [hW4]
  clear hW4 hs4 hi4 hT4 hrow4 HJ2 HY2 HM2 HTD2 HR3 HL3 HT3 HS3
  refine wpIn_loop_ghost (fun (gk : Nat) (a : Act) (W : World) => ∃ (i bi : Nat) (v : Value) (ds : List Deferred) (O : Nat → Prop) (y7 y8 y9 y10 y11 y12 y13 y14 y15 y16 y17 y18 y19 y20 y21 y22 y23 y24 y25 y26 y27 y28 y29 y30 y31 y32 y33 y34 y35 y36 y37 y38 y39 y40 y41 y42 y43 y44 y45 y46 y47 y48 y49 y50 y51 : Value), a = { tmps := #[Value.func (Fn.yield l) #[] #[], Value.pointer (some ⟨Bp, 0, none⟩), Value.pointer (some ⟨Ba, 0, none⟩), Value.pointer (some ⟨W1.heap.size, 0, none⟩), Value.pointer (some ⟨W1.heap.size + 1, 0, none⟩), Value.pointer (some ⟨bl, 0, none⟩), Value.pointer (some ⟨bi, 0, none⟩), y7, y8, y9, y10, y11, y12, y13, y14, y15, y16, y17, y18, y19, y20, y21, y22, y23, y24, y25, y26, y27, y28, y29, y30, y31, y32, y33, y34, y35, y36, y37, y38, y39, y40, y41, y42, y43, y44, y45, y46, y47, y48, y49, y50, y51], defers := ds } ∧ i ≤ (bfsK L p i).length ∧ gk + i = 65537 ∧ Hid (J O (bfsK L p i) W) ∧ Hid (Search l W1.heap.size bl bi i v (bfsK L p i) W) ∧ Hid (Marked O ds W) ∧ Hid (O W1.heap.size ∧ O (W1.heap.size + 1) ∧ O bl ∧ O bi ∧ ∀ g, v.ownBlock = some g → O g) ∧ Hid (∀ b, O b → W1.heap.size ≤ b ∧ b < W.heap.size) ∧ Hid (Turn (fun b => ¬ D b) W1 W)) 65537 ?start ?_
  case start =>
    refine ⟨0, W3.heap.size, .slice (some ⟨W2.heap.size, 0, none⟩) 1 1, [], (fun b => (b = W1.heap.size ∨ b = W1.heap.size + 1) ∨ (W2.heap.size ≤ b ∧ b < W2.heap.size + 3)), _, _, _, _, _, _, _, _, _, _, _, _, _, _, _, _, _, _, _, _, _, _, _, _, _, _, _, _, _, _, _, _, _, _, _, _, _, _, _, _, _, _, _, _, _, rfl, by omega, rfl, HJ4, HSR, Lib.hid trivial, Lib.hid ⟨.inl (.inl rfl), .inl (.inr rfl), .inr ?_, .inr ?_, fun g e => .inr ?_⟩, Lib.hid (fun b hb => ?_), HT4⟩
    · have := HBL.out; omega
    · have := HSB.out; omega
    · have : W2.heap.size = g := by simpa [Value.ownBlock] using e
      omega
    · have := HZ2.out
      have := HZ4.out
      rcases hb with (h | h) | h <;> omega
  clear HJ4 HSR HT4 HZ4 HSB HBL HZ2 HCS
  rintro gk a W ⟨i, bi, v, ds, O, y7, y8, y9, y10, y11, y12, y13, y14, y15, y16, y17, y18, y19, y20, y21, y22, y23, y24, y25, y26, y27, y28, y29, y30, y31, y32, y33, y34, y35, y36, y37, y38, y39, y40, y41, y42, y43, y44, y45, y46, y47, y48, y49, y50, y51, rfl, hib, hgk, HJ1, HS1, HM1, HO1, HB1, HT1⟩
  have HJA := HJ1
  have HSA := HS1
  have HMA := HM1
  have HOA := HO1
  have HBA2 := HB1
  have HTA := HT1
  clear HJ1 HS1 HM1 HO1 HB1 HT1
  obtain ⟨A9, k9, hv9, hra9, _⟩ := HSA.out.row.rowA
  have hlen9 : (natV (posL (bfsK L p i))).length = (bfsK L p i).length := by simp [natV, posL]
  rw [hlen9] at hv9
  subst hv9
  have ci := HSA.out.at_.cell 0
  have cl := HSA.out.list.cell 0
  simp only [List.getElem?_toArray, List.getElem?_cons_zero] at ci cl
  have HRA := Lib.hid hra9
  have HLN := Lib.hid hlen9
  clear hra9 hlen9
  by_cases hlt : i < (bfsK L p i).length
  · obtain ⟨g9, o9, hA9, hg9, hcu⟩ := HRA.out.reads.getN (i := i) (by simp [posL]; exact hlt)
    subst hA9
    obtain ⟨⟨u, j0⟩, hej⟩ : ∃ e, (bfsK L p i)[i]? = some e := ⟨_, List.getElem?_eq_getElem hlt⟩
    rw [posL_get hej] at hcu
    simp only at hcu
    have hu16 : u < 65536 := Nat.lt_of_lt_of_le (bfsK_lt HK.out HPN.out i _ (List.mem_of_getElem? hej)) (Nat.pow_le_pow_right (n := 2) (by decide) hn)
    have HNX := Lib.hid (bfsK_next hej)
    have hltI : (i : Int) < ((bfsK L p i).length : Int) := by omega
    have h65 : i < 65536 := by
      have h1 := bfsK_len HK.out HPN.out i
      have h2 : (2:Nat) ^ n ≤ 65536 := Nat.pow_le_pow_right (n := 2) (by decide) hn
      omega
    have HRC := Lib.hid ((bfsK_pre L p i).trans (bfsK_reach L p (i + 1) (by omega)))
    have HRN := Lib.hid (bfsK_reach L p (i + 1) (by omega))
    have HU16 := Lib.hid hu16
    have HUI := Lib.hid hej
    have hba := (HBA.out.turn HTA.out (fun h => h hDa)).cell 0
    simp only [List.getElem?_toArray, List.getElem?_cons_zero] at hba
    have HC1 := Lib.hid hba
    have HC2 := Lib.hid cl
    have HC3 := Lib.hid ci
    have HC4 := Lib.hid hcu
    have hbaw : Ba < W.heap.size := Nat.lt_of_lt_of_le hla HTA.out.size
    have hblw := HSA.out.list.lt
    have hbiw := HSA.out.at_.lt
    clear hej hu16 h65
    gi_wp2
    clear hba cl ci hcu
    refine wpIn_mono (Q := calmP _) ?_ calmP_imp
    refine wpIn_wide.2 ?_
    refine wp_region_held_drew (S := fun w' => w'.cell? ⟨Ba, 0, none⟩ = some (.slice A L.length c) ∧ w'.cell? ⟨bl, 0, none⟩ = some (.slice (some ⟨g9, o9, none⟩) (bfsK L p i).length k9) ∧ w'.cell? ⟨bi, 0, none⟩ = some (.int .i64 (i : Nat)) ∧ w'.cell? ⟨g9, o9 + i, none⟩ = some (.int .i64 (u : Nat))) (by kernel_rfl) ⟨HC1.out, HC2.out, HC3.out, HC4.out⟩ (fun hHeld => ?_)
    refine wpAnyH_take (i := 0) (v := ?_) rfl (by kernel_rfl) (by kernel_rfl) (by kernel_rfl) (fun _ _ _ h => h) (Or.inl ⟨by rfl, ?_⟩) (by assumption) ?_
    rotate_left
    · (intro w hSw; (try dsimp only at hSw); go_simp <;> (with_reducible rfl))
    try simp only [Act.put, List.setIfInBounds_toArray, List.set_cons_zero, List.set_cons_succ, List.getElem_toArray, List.getElem_cons_zero]
    refine wpAnyH_take (i := 1) (v := ?_) rfl (by kernel_rfl) (by kernel_rfl) (by kernel_rfl) (fun _ _ _ h => h) (Or.inl ⟨by rfl, ?_⟩) (by assumption) ?_
    rotate_left
    · (intro w hSw; (try dsimp only at hSw); go_simp <;> (with_reducible rfl))
    try simp only [Act.put, List.setIfInBounds_toArray, List.set_cons_zero, List.set_cons_succ, List.getElem_toArray, List.getElem_cons_zero, List.getElem_cons_succ]
    refine wpAnyH_take (i := 2) (v := ?_) rfl (by kernel_rfl) (by kernel_rfl) (by kernel_rfl) (fun _ _ _ h => h) (Or.inl ⟨by rfl, ?_⟩) (by assumption) ?_
    rotate_left
    · (intro w hSw; (try dsimp only at hSw); go_simp <;> (with_reducible rfl))
    try simp only [Act.put, List.setIfInBounds_toArray, List.set_cons_zero, List.set_cons_succ, List.getElem_toArray, List.getElem_cons_zero, List.getElem_cons_succ]
    refine wpAnyH_take (i := 3) (v := ?_) rfl (by kernel_rfl) (by kernel_rfl) (by kernel_rfl) (fun _ _ _ h => h) (Or.inl ⟨by rfl, ?_⟩) (by assumption) ?_
    rotate_left
    · (intro w hSw; (try dsimp only at hSw); go_simp <;> (with_reducible rfl))
    try simp only [Act.put, List.setIfInBounds_toArray, List.set_cons_zero, List.set_cons_succ, List.getElem_toArray, List.getElem_cons_zero, List.getElem_cons_succ]
    refine wpAnyH_take (i := 4) (v := ?_) rfl (by kernel_rfl) (by kernel_rfl) (by kernel_rfl) (fun _ _ _ h => h) (Or.inl ⟨by rfl, ?_⟩) (by assumption) ?_
    rotate_left
    · (intro w hSw; (try dsimp only at hSw); go_simp <;> (with_reducible rfl))
    try simp only [Act.put, List.setIfInBounds_toArray, List.set_cons_zero, List.set_cons_succ, List.getElem_toArray, List.getElem_cons_zero, List.getElem_cons_succ]
    refine wpAnyH_ready (rs := [5]) (by kernel_rfl) (by simp) ?_
    refine AllReadyH.cons rfl (fun K hK => ?_) AllReadyH.nil
    go_simp
    go_at_call 58
    refine (possible_any _ _ _ _ _).mono ?_
    rintro e w' ⟨rfl, rfl⟩
    have hbk : Below W.heap.size W ((W.drew.alloc (Obj.cells #[Value.slice A L.length c] 102)).alloc (Obj.cells #[Value.int .i64 (u : Nat)] 3)) := ((belowT_drewN (Below.refl _ W) 1).alloc (by show W.heap.size ≤ W.heap.size; omega) _).alloc (by simp) _
    have hbs5 := (Box.new W.drew 102 #[Value.slice A L.length c]).alloc (Obj.cells #[Value.int .i64 (u : Nat)] 3)
    have hbq5 := Box.new (W.drew.alloc (Obj.cells #[Value.slice A L.length c] 102)) 3 #[Value.int .i64 (u : Nat)]
    have hsz5 : ((W.drew.alloc (Obj.cells #[Value.slice A L.length c] 102)).alloc (Obj.cells #[Value.int .i64 (u : Nat)] 3)).heap.size = W.heap.size + 2 := by simp
    rw [show (W.drew.alloc (Obj.cells #[Value.slice A L.length c] 102)).heap.size = W.heap.size + 1 by simp] at hbq5
    rw [show W.drew.heap.size = W.heap.size from rfl] at hbs5 ⊢
    have hT5 : Turn (fun _ => False) W ((W.drew.alloc (Obj.cells #[Value.slice A L.length c] 102)).alloc (Obj.cells #[Value.int .i64 (u : Nat)] 3)) := (((Turn.refl _ W).drewN 1).alloc _).alloc _
    obtain ⟨W5, hW5⟩ : ∃ W5, (W.drew.alloc (Obj.cells #[Value.slice A L.length c] 102)).alloc (Obj.cells #[Value.int .i64 (u : Nat)] 3) = W5 := ⟨_, rfl⟩
    rw [hW5] at hbk hbs5 hbq5 hsz5 hT5 ⊢
    clear hW5
    go_wp2_with fail
    refine hK.out _ _ ?_ (fun hHeld => ?_)
    · exact ⟨(hbk.cell (p := ⟨Ba, 0, none⟩) hbaw).trans HC1.out, (hbk.cell (p := ⟨bl, 0, none⟩) hblw).trans HC2.out, (hbk.cell (p := ⟨bi, 0, none⟩) hbiw).trans HC3.out, (hbk.cell (p := ⟨g9, o9 + i, none⟩) hg9).trans HC4.out⟩
    clear hK K
    try simp only [Act.put, List.setIfInBounds_toArray, List.set_cons_zero, List.set_cons_succ, List.getElem_toArray, List.getElem_cons_zero, List.getElem_cons_succ]
    refine wpAnyH_done (by kernel_rfl) ?_ _
    refine calmP_normal ?_
    clear hHeld HC1 HC2 HC3 HC4
    have HBS5 := Lib.hid hbs5
    have HBQ5 := Lib.hid hbq5
    have HSZ5 := Lib.hid hsz5
    have HT5 := Lib.hid hT5
    clear hbs5 hbq5 hsz5 hT5 hbk
    gi_wp2
    have hTD5 : Turn (fun b => ¬ D b) W1 W5 := HTA.out.trans HT5.out fun _ _ h => h.elim
    have HTD5 := Lib.hid hTD5
    have hw1 : W1.heap.size ≤ W.heap.size := HTA.out.size
    clear hTD5
    refine rangeT (m := 2) (gf := 98) (lb := #[.pointer (some ⟨W.heap.size, 0, none⟩), .pointer (some ⟨W.heap.size + 1, 0, none⟩)]) (E := IsJump) (fun x v W h => by rw [h]; rfl) rfl (enters_of Try.func98 (by kernel_rfl) rfl)
      (D := fun b => D b ∨ b = W.heap.size ∨ b = W.heap.size + 1) (all := L.filter fun j => canJ j u) (fun b hb => ?hD) ?hseq
      (fun O' pre W' => InnI J l W1.heap.size bl bi i W.heap.size ds D O' (addP u (bfsK L p i) pre) W1 W')
      (fun cx O' W' => InnX S ds cx O' W')
      ?hI0 ?hIe ?hI ?hIx ?hround ?hdone ?hstop
    case hD => 
      rcases hb with h | h | h
      · have := HDS.out b h; have := HSZ5.out; omega
      · have := HSZ5.out; omega
      · have := HSZ5.out; omega
    case hseq =>
      intro W6 hb6
      have hs5 := HSZ5.out
      refine possible_seq W.heap.size (W.heap.size + 1) 0 n u c A L _ W6 hn HU16.out HK.out hl (HBS5.out.below hb6 (by omega)) (HBQ5.out.below hb6 (by omega)) ?_ (fun b o e => .inl (HAD.out b o e)) (.inr (.inl rfl)) (.inr (.inr rfl))
      exact ((HR.out.turnD HTD5.out HAD.out).below hb6).more hb6.size
    case hI0 =>
      have hz := HSZ5.out
      obtain ⟨o1, o2, o3, o4, o5⟩ := HOA.out
      unfold InnI
      refine ⟨fun b => O b ∨ b = W.heap.size ∨ b = W.heap.size + 1, _, Lib.hid ?_, Lib.hid (HSA.out.turn HT5.out (fun h => h) (fun h => h) (fun h => h) (fun h => h) (fun _ _ h => h)), Lib.hid ((HMA.out.turn HT5.out (fun _ _ h => h)).imp fun b h => .inl h), Lib.hid ⟨.inl o1, .inl o2, .inl o3, .inl o4, fun g e => ⟨.inl (o5 g e), by have := (HBA2.out g (o5 g e)).2; omega, by have := (HBA2.out g (o5 g e)).2; omega⟩, .inr (.inl rfl), .inr (.inr rfl)⟩, Lib.hid (fun b hb => ?_), Lib.hid (fun _ h => h.elim), HTD5⟩
      · refine HJT.out _ _ W _ (HJE.out _ _ _ _ HJA.out fun b hb => ?_) (HT5.out.imp fun i _ h => h.elim)
        rcases hb with (h | h | h) | h
        · exact .inl h
        · exact .inr (by omega)
        · exact .inr (by omega)
        · exact h.elim
      · refine ⟨?_, ?_, fun h => h⟩
        · rcases hb with h | h | h
          · exact (HBA2.out b h).1
          · omega
          · omega
        · rcases hb with h | h | h
          · have := (HBA2.out b h).2; omega
          · omega
          · omega
    case hIe =>
      rintro O1 O2 pre W' ⟨Om, v, hj, hs, hm, ho, hb, hq, ht⟩ hx
      unfold InnI
      refine ⟨Om, v, Lib.hid (HJE.out _ _ _ _ hj.out fun b h => ?_), hs, hm, ho, Lib.hid (fun b h => ⟨(hb.out b h).1, (hb.out b h).2.1, fun h2 => ?_⟩), Lib.hid (fun b h => ?_), ht⟩
      · rcases h with h | h
        · exact .inl (.inl h)
        · rcases hx b h with h | h
          · exact .inl (.inr h)
          · exact .inr h
      · rcases hx b h2 with h3 | h3
        · exact (hb.out b h).2.2 h3
        · have := (hb.out b h).2.1; omega
      · rcases hx b h with h | h
        · exact hq.out b h
        · exact Nat.le_trans ht.out.size h
    case hI =>
      rintro O1 pre W' W'' ⟨Om, v, hj, hs, hm, ho, hb, hq, ht⟩ hT
      have hno : ∀ b, Om b → ¬ O1 b := fun b h => (hb.out b h).2.2
      unfold InnI
      obtain ⟨o1, o2, o3, o4, o5, _, _⟩ := ho.out
      refine ⟨Om, v, Lib.hid (HJT.out _ _ _ _ hj.out (hT.imp fun i _ h => .inr h)), Lib.hid (hs.out.turn hT (hno _ o1) (hno _ o2) (hno _ o3) (hno _ o4) (fun g e => hno _ (o5 g e).1)), Lib.hid (hm.out.turn hT hno), ho, Lib.hid (fun b h => ⟨(hb.out b h).1, Nat.lt_of_lt_of_le (hb.out b h).2.1 hT.size, hno b h⟩), hq, Lib.hid (ht.out.trans hT fun i hi h hd => ?_)⟩
      have := HDS.out i hd
      have := hq.out i h
      omega
    case hIx =>
      rintro cx O1 W' W'' ⟨rfl, Om, hs, hm, hb⟩ hT
      unfold InnX
      exact ⟨rfl, Om, Lib.hid (HST.out _ _ _ hs.out (hT.imp fun i _ h => .inr h)), Lib.hid (hm.out.turn hT hb.out), hb⟩
    case hdone =>
      rintro O1 W' hO1 ⟨Om, v, hj, hs, hm, ho, hb, hq, ht⟩ hK
      rw [← HNX.out] at hj hs
      obtain ⟨o1, o2, o3, o4, o5, o6, o7⟩ := ho.out
      have cI := hs.out.at_.cell 0
      simp only [List.getElem?_toArray, List.getElem?_cons_zero] at cI
      have HJ6 := hj
      have HS6 := hs
      have HM6 := hm
      have HB6 := hb
      have HQ6 := hq
      have HT6 := ht
      have HOO := Lib.hid ho.out
      have HK6 := Lib.hid hK
      have hi65 : (i : Int) < 65536 := by
        have h1 := bfsK_len HK.out HPN.out i
        have h2 : (2:Nat) ^ n ≤ 65536 := Nat.pow_le_pow_right (n := 2) (by decide) hn
        omega
      have hlen : i + 1 ≤ (bfsK L p (i + 1)).length := by
        have := (bfsK_pre L p i).length_le
        omega
      have hbiw' := hs.out.at_.lt
      have HLE := Lib.hid hlen
      have hcn := (Box.new W' 3 #[Value.int .i64 (i : Nat)]).cell 0
      have hfn := (Box.new W' 3 #[Value.int .i64 (i : Nat)]).free 0
      simp only [List.getElem?_toArray, List.getElem?_cons_zero] at hcn
      clear hj hs hm hb hq ht ho hK hlen
      gi_wp2
      obtain ⟨Wn, hWn⟩ : ∃ Wn, W'.alloc (Obj.cells #[Value.int IntKind.i64 ((i : Int) + 1)] 3) = Wn := ⟨_, rfl⟩
      have hTn : Turn (fun b => b = W'.heap.size) W' Wn := by
        rw [← hWn]
        exact (Turn.refl (fun b => b = W'.heap.size) W').alloc _
      have hSn : Wn.heap.size = W'.heap.size + 1 := by rw [← hWn]; simp
      have hBn : Box Wn W'.heap.size 3 #[.int .i64 ((i + 1 : Nat) : Int)] := by
        rw [← hWn]
        exact Box.new W' 3 #[.int .i64 ((i : Int) + 1)]
      rw [hWn]
      clear hWn
      obtain ⟨p1, p2, p3, p4, p5, p6, p7⟩ := HOO.out
      have hne : ∀ b, Om b → ¬ b = W'.heap.size := fun b h e => by have := (HB6.out b h).2.1; omega
      obtain ⟨cs6, hm6, hk6⟩ := HS6.out.marks
      refine ⟨gk - 1, by omega, i + 1, W'.heap.size, v, { target := .collected W5.heap.size, args := #[] } :: ds, (fun b => ((Om b ∨ O1 b) ∧ b < W'.heap.size) ∨ b = W'.heap.size), _, _, _, _, _, _, _, _, _, _, _, _, _, _, _, _, _, _, _, _, _, _, _, _, _, _, _, _, _, _, _, _, _, _, _, _, _, _, _, _, _, _, _, _, _, rfl, HLE.out, by omega, Lib.hid ?_, Lib.hid ?_, Lib.hid ?_, Lib.hid ⟨.inl ⟨.inl p1, (HB6.out _ p1).2.1⟩, .inl ⟨.inl p2, (HB6.out _ p2).2.1⟩, .inl ⟨.inl p3, (HB6.out _ p3).2.1⟩, .inr rfl, fun g e => .inl ⟨.inl (p5 g e).1, (HB6.out _ (p5 g e).1).2.1⟩⟩, Lib.hid (fun b hb => ?_), Lib.hid (HT6.out.trans hTn fun i hi h hd => by have := HT6.out.size; omega)⟩
      · refine HJT.out _ _ W' _ (HJE.out _ _ _ _ HJ6.out fun b h => ?_) (hTn.imp fun i _ h => .inr h)
        rcases h with h | h
        · exact .inl h.1
        · exact .inr (by omega)
      · exact ⟨HS6.out.yield.turn hTn (hne _ p1), ⟨cs6, hm6.turn hTn (hne _ p2), hk6⟩, HS6.out.list.turn hTn (hne _ p3), HS6.out.row.turn hTn (fun g e => hne _ (p5 g e).1), hBn, fun g e => hne _ (p5 g e).1⟩
      · have h5 := (Array.getElem?_eq_some_iff.1 HK6.out).1
        exact ⟨W5.heap.size, rfl, .inl ⟨.inr hO1, h5⟩, (hTn.2 _ h5 (by omega)).trans HK6.out, HM6.out.notin (fun h => (HB6.out _ h).2.2 hO1), (HM6.out.turn hTn hne).imp fun b h => .inl ⟨.inl h, (HB6.out b h).2.1⟩⟩
      · rcases hb with ⟨h | h, h2⟩ | h
        · exact ⟨(HB6.out b h).1, by omega⟩
        · exact ⟨HQ6.out b h, by omega⟩
        · have := HT6.out.size
          exact ⟨by omega, by omega⟩
    case hstop =>
      rintro cx O1 W' hO1 ⟨rfl, Om, hs, hm, hb⟩ hK
      have HS6 := hs
      have HM6 := hm
      have HB6 := hb
      have HK6 := Lib.hid hK
      clear hs hm hb hK
      gi_wp2
      rw [Exit.noGoto_normal]
      refine Marked.leaves (O := fun b => Om b ∨ O1 b) (fun W => results_none rfl _ _ _) ⟨W5.heap.size, rfl, .inr hO1, HK6.out, HM6.out.notin (fun h => HB6.out _ h hO1), HM6.out.imp fun b h => .inl h⟩ fun W'' hT => ⟨rfl, _, .inr (HST.out _ _ _ HS6.out hT)⟩
    case hround =>
      rintro l2 O1 pre x vv W' ⟨Om, v, hj, hs, hm, ho, hb, hq, ht⟩ hE hpre hOl hOr hOge ⟨rl, hrl⟩
      have hE : vv = #[.agg #[.int .i64 x.1, .int .i64 x.2.1, .int .i64 x.2.2]] := hE
      subst hE
      have hxm := List.mem_filter.1 (hpre.subset (show x ∈ pre ++ [x] by simp))
      have HCAN := Lib.hid hxm.2
      have HXL := Lib.hid hxm.1
      obtain ⟨a1, a2, a3, hxe, ha1, ha2, ha3⟩ := (HK.out x hxm.1).nat hn
      subst hxe
      have HPRE2 := Lib.hid hpre
      have HJ6 := hj
      have HS6 := hs
      have HM6 := hm
      have HO6 := ho
      have HB6 := hb
      have HQ6 := hq
      have HT6 := ht
      have HRL := Lib.hid hrl
      clear hj hs hm ho hb hq ht hpre hxm hrl
      gi_wp2
      refine ⟨(Turn.refl _ _).alloc _, ?_⟩
      --ROUND
      rintro W2' hT2 - -
      obtain ⟨o1, o2, o3, o4, o5, o6, o7'⟩ := HO6.out
      obtain ⟨Q1, hQ1⟩ : ∃ Q1, addP u (bfsK L p i) pre = Q1 := ⟨_, rfl⟩
      have hpq : bfsK L p i <+: Q1 := by rw [← hQ1]; exact addP_pre u pre _
      have HADD := Lib.hid (show addP u (bfsK L p i) (pre ++ [((a1 : Int), (a2 : Int), (a3 : Int))]) = addJ u Q1 ((a1 : Int), (a2 : Int), (a3 : Int)) by rw [addP_snoc, hQ1])
      have HREA := Lib.hid (show addJ u Q1 ((a1 : Int), (a2 : Int), (a3 : Int)) <+: reachL L p by
        rw [← HADD.out]
        refine (addP_mono u _ HPRE2.out).trans ?_
        rw [← HNX.out]; exact HRN.out)
      rw [hQ1] at HJ6 HS6
      have hl2 : ¬ Om l2 := fun h => (HB6.out l2 h).2.2 hOl
      have hjb : W'.heap.size ≠ l2 := fun e => by have := (hOge l2 hOl).2; omega
      have hTa : Turn (fun b => b = l2) W' W2' := ((Turn.refl (fun b => b = l2) W').alloc _).trans hT2 (fun _ _ h => h)
      have hbj := (Box.new W' 105 #[Value.int IntKind.i64 a1, Value.int IntKind.i64 a2, Value.int IntKind.i64 a3]).turn hT2 hjb
      have hs2 := HS6.out.turn hTa (fun e => hl2 (e ▸ o1)) (fun e => hl2 (e ▸ o2)) (fun e => hl2 (e ▸ o3)) (fun e => hl2 (e ▸ o4)) (fun g e h => hl2 (h ▸ (o5 g e).1))
      have HS7 := Lib.hid hs2
      have HJ7 := Lib.hid (HJT.out _ _ _ _ HJ6.out (hTa.imp fun i _ h => .inr (by rw [h]; exact hOl)))
      have HM7 := Lib.hid (HM6.out.turn hTa (fun b h e => hl2 (e ▸ h)))
      have HT7 := Lib.hid (HT6.out.trans hTa fun i hi h hd => by have := HDS.out i hd; have := (hOge l2 hOl).1; have := HSZ5.out; omega)
      have hsz7 := hTa.size
      obtain ⟨A7, k7, hv7, hra7, _⟩ := hs2.row.rowA
      have hlen7 : (natV (posL Q1)).length = Q1.length := by simp [natV, posL]
      rw [hlen7] at hv7
      have hQi : Q1[i]? = some (u, j0) := by
        obtain ⟨r, hr⟩ := hpq
        rw [← hr, List.getElem?_append_left (List.getElem?_eq_some_iff.1 HUI.out).1]
        exact HUI.out
      have hiQ : i < Q1.length := (List.getElem?_eq_some_iff.1 hQi).1
      obtain ⟨g7, o7, hA7, hg7, hcu7⟩ := hra7.reads.getN (i := i) (by simp [posL]; exact hiQ)
      subst hA7
      subst hv7
      rw [posL_get hQi] at hcu7
      simp only at hcu7
      have x0 := hbj.cell 0
      have x1 := hbj.cell 1
      have x2 := hbj.cell 2
      have x3 := hs2.list.cell 0
      have x4 := hs2.at_.cell 0
      simp only [List.getElem?_toArray, List.getElem?_cons_zero, List.getElem?_cons_succ] at x0 x1 x2 x3 x4
      have HX0 := Lib.hid x0
      have HX1 := Lib.hid x1
      have HX2 := Lib.hid x2
      have HX3 := Lib.hid x3
      have HX4 := Lib.hid x4
      have HX5 := Lib.hid hcu7
      have hl0 := hbj.lt
      have hl3 := hs2.list.lt
      have hl4 := hs2.at_.lt
      have hl5 := hg7
      have hjlt : W'.heap.size < W2'.heap.size := hbj.lt
      have HBJ := Lib.hid hbj
      obtain ⟨q, hq⟩ : ∃ q, fromJ ((a1 : Int), (a2 : Int), (a3 : Int)) u = q := ⟨_, rfl⟩
      have hq16 : q < 65536 := by
        rw [← hq]
        exact Nat.xor_lt_two_pow (n := 16) HU16.out (Nat.lt_of_lt_of_le (holesM_lt (HK.out _ HXL.out)) (Nat.pow_le_pow_right (n := 2) (by decide) hn))
      have HQ16 := Lib.hid hq16
      have HQF := Lib.hid hq
      have hiQ' : (i : Int) < (Q1.length : Int) := by omega
      obtain ⟨cs7, hbm7, hmk7⟩ := hs2.marks
      have hltm := hbm7.lt
      have HBM7 := Lib.hid hbm7
      have HMK7 := Lib.hid hmk7
      clear hpq hQi hiQ hra7 hlen7 hs2 x0 x1 x2 x3 x4 hcu7 hbj hq16 hq hbm7 hmk7 HPRE2 HRN HJ6 HS6 HM6 HT6 hQ1 hg7 hjb
      have hmo : Try.prog.follows .mixedOrders = true := by kernel_rfl
      gi_wp2
      refine wpIn_mono (Q := calmP _) ?_ calmP_imp
      refine held_round (S := fun w' => Below W2'.heap.size W2' w' ∧ w'.cell? ⟨W'.heap.size, 0, none⟩ = some (.int .i64 a1) ∧ w'.cell? ⟨W'.heap.size, 1, none⟩ = some (.int .i64 a2) ∧ w'.cell? ⟨W'.heap.size, 2, none⟩ = some (.int .i64 a3) ∧ w'.cell? ⟨bl, 0, none⟩ = some (.slice (some ⟨g7, o7, none⟩) Q1.length k7) ∧ w'.cell? ⟨bi, 0, none⟩ = some (.int .i64 (i : Nat)) ∧ w'.cell? ⟨g7, o7 + i, none⟩ = some (.int .i64 (u : Nat))) hmo (by kernel_rfl) calmP_out ⟨belowT_drewN (Below.refl _ _) 1, HX0.out, HX1.out, HX2.out, HX3.out, HX4.out, HX5.out⟩ (fun hHeld => ?_)
      refine wpAnyH_take (i := 0) (v := ?_) rfl (by kernel_rfl) (by kernel_rfl) (by kernel_rfl) (fun _ _ _ h => h) (Or.inl ⟨by rfl, ?_⟩) (by assumption) ?_
      rotate_left
      · (intro w hSw; (try dsimp only at hSw); go_simp <;> (with_reducible rfl))
      try simp only [Act.put, List.setIfInBounds_toArray, List.set_cons_zero, List.set_cons_succ, List.getElem_toArray, List.getElem_cons_zero]
      refine wpAnyH_take (i := 1) (v := ?_) rfl (by kernel_rfl) (by kernel_rfl) (by kernel_rfl) (fun _ _ _ h => h) (Or.inl ⟨by rfl, ?_⟩) (by assumption) ?_
      rotate_left
      · (intro w hSw; (try dsimp only at hSw); go_simp <;> (with_reducible rfl))
      try simp only [Act.put, List.setIfInBounds_toArray, List.set_cons_zero, List.set_cons_succ, List.getElem_toArray, List.getElem_cons_zero, List.getElem_cons_succ]
      refine wpAnyH_take (i := 2) (v := ?_) rfl (by kernel_rfl) (by kernel_rfl) (by kernel_rfl) (fun _ _ _ h => h) (Or.inl ⟨by rfl, ?_⟩) (by assumption) ?_
      rotate_left
      · (intro w hSw; (try dsimp only at hSw); go_simp <;> (with_reducible rfl))
      try simp only [Act.put, List.setIfInBounds_toArray, List.set_cons_zero, List.set_cons_succ, List.getElem_toArray, List.getElem_cons_zero, List.getElem_cons_succ]
      refine wpAnyH_take (i := 3) (v := ?_) rfl (by kernel_rfl) (by kernel_rfl) (by kernel_rfl) (fun _ _ _ h => h) (Or.inl ⟨by rfl, ?_⟩) (by assumption) ?_
      rotate_left
      · (intro w hSw; (try dsimp only at hSw); go_simp <;> (with_reducible rfl))
      try simp only [Act.put, List.setIfInBounds_toArray, List.set_cons_zero, List.set_cons_succ, List.getElem_toArray, List.getElem_cons_zero, List.getElem_cons_succ]
      refine wpAnyH_take (i := 4) (v := ?_) rfl (by kernel_rfl) (by kernel_rfl) (by kernel_rfl) (fun _ _ _ h => h) (Or.inl ⟨by rfl, ?_⟩) (by assumption) ?_
      rotate_left
      · (intro w hSw; (try dsimp only at hSw); go_simp <;> (with_reducible rfl))
      try simp only [Act.put, List.setIfInBounds_toArray, List.set_cons_zero, List.set_cons_succ, List.getElem_toArray, List.getElem_cons_zero, List.getElem_cons_succ]
      refine wpAnyH_ready (rs := [5]) (by kernel_rfl) (by simp) ?_
      refine AllReadyH.cons rfl (fun K hK => ?_) AllReadyH.nil
      go_simp
      go_at_call 65
      refine (from_of _ ha1 ha2 ha3 HU16.out HQF.out).mono ?_
      rintro e w' ⟨rfl, hbn⟩
      have hS2 := hHeld.1.trans (hbn.mono hHeld.1.size)
      clear hbn
      go_wp2_with fail
      refine hK.out _ _ ?_ (fun hHeld => ?_)
      · exact ⟨hS2, (hS2.cell (p := ⟨W'.heap.size, 0, none⟩) hl0).trans HX0.out, (hS2.cell (p := ⟨W'.heap.size, 1, none⟩) hl0).trans HX1.out, (hS2.cell (p := ⟨W'.heap.size, 2, none⟩) hl0).trans HX2.out, (hS2.cell (p := ⟨bl, 0, none⟩) hl3).trans HX3.out, (hS2.cell (p := ⟨bi, 0, none⟩) hl4).trans HX4.out, (hS2.cell (p := ⟨g7, o7 + i, none⟩) hl5).trans HX5.out⟩
      clear hK K hS2
      try simp only [Act.put, List.setIfInBounds_toArray, List.set_cons_zero, List.set_cons_succ, List.getElem_toArray, List.getElem_cons_zero, List.getElem_cons_succ]
      refine wpAnyH_take (i := 6) (v := ?_) rfl (by kernel_rfl) (by kernel_rfl) (by kernel_rfl) (fun _ _ _ h => h) (Or.inl ⟨by rfl, ?_⟩) (by assumption) ?_
      rotate_left
      · (intro w hSw; (try dsimp only at hSw); go_simp <;> (with_reducible rfl))
      try simp only [Act.put, List.setIfInBounds_toArray, List.set_cons_zero, List.set_cons_succ, List.getElem_toArray, List.getElem_cons_zero, List.getElem_cons_succ]
      refine wpAnyH_done (by kernel_rfl) ?_ _
      refine calmP_normal ?_
      have HB8 := Lib.hid hHeld.1
      clear hHeld
      have hT8 : Turn (fun _ => False) W2' w' := (Turn.refl _ _).below HB8.out (Nat.le_refl _)
      have HT8 := Lib.hid hT8
      have hsz8 := hT8.size
      have hcm := (HBM7.out.turn hT8 (fun h => h)).cell q
      have hfm := (HBM7.out.turn hT8 (fun h => h)).free q
      rw [HMK7.out.2 q HQ16.out] at hcm
      have hix := marks_at (W1.heap.size + 1) q HQ16.out
      have HS8 := Lib.hid (HS7.out.turn hT8 (fun h => h) (fun h => h) (fun h => h) (fun h => h) (fun _ _ h => h))
      have HM8 := Lib.hid (HM7.out.turn hT8 (fun _ _ h => h))
      have HTD8 := Lib.hid (show Turn (fun b => ¬ D b) W1 w' from HT7.out.trans hT8 fun _ _ h => h.elim)
      have hbnd : ∀ b, Om b → W1.heap.size ≤ b ∧ b < w'.heap.size ∧ ¬ O1 b := fun b h => ⟨(HB6.out b h).1, by have := (HB6.out b h).2.1; omega, (HB6.out b h).2.2⟩
      have HBN := Lib.hid hbnd
      have hmsz : W1.heap.size + 1 < W'.heap.size := (HB6.out _ o2).2.1
      clear hT8 hbnd
      cases hh : hasQ Q1 q with
      | true =>
        have HHS := Lib.hid hh
        rw [hh] at hcm
        clear hh
        gi_wp2
        refine ⟨?_, HT8.out.imp fun _ _ h => h.elim⟩
        unfold InnI
        refine ⟨Om, _, ?_, ?_, HM8, HO6, HBN, HQ6, HTD8⟩
        · rw [HADD.out]
          unfold addJ
          rw [HQF.out, if_pos HHS.out]
          exact Lib.hid (HJT.out _ _ _ _ HJ7.out (HT8.out.imp fun _ _ h => h.elim))
        · rw [HADD.out]
          unfold addJ
          rw [HQF.out, if_pos HHS.out]
          exact HS8
      | false =>
        have HHS := Lib.hid hh
        have HAJ := Lib.hid (show addJ u Q1 ((a1 : Int), (a2 : Int), (a3 : Int)) = Q1 ++ [(q, ((a1 : Int), (a2 : Int), (a3 : Int)))] by
          unfold addJ
          rw [HQF.out, if_neg (by rw [HHS.out]; simp)])
        rw [hh] at hcm
        clear hh
        obtain ⟨w9, hw9⟩ : ∃ w9, w'.setCell ⟨W1.heap.size + 1, q, none⟩ (.bool true) = w9 := ⟨_, rfl⟩
        have hT9 : Turn (fun b => b = W1.heap.size + 1) w' w9 := by
          rw [← hw9]
          exact (Turn.refl (fun b => b = W1.heap.size + 1) w').setCell (p := ⟨W1.heap.size + 1, q, none⟩) (.inl rfl) _
        have hs9 : w9.heap.size = w'.heap.size := by rw [← hw9]; simp
        have hy9 := HS8.out.yield.turn hT9 (by omega)
        have hj9 := (HBJ.out.turn HT8.out (fun h => h)).turn hT9 (by omega)
        have hnbl : ¬ bl = W1.heap.size + 1 := fun e => by
          have h1 := HS8.out.list
          have h2 := HBM7.out.turn HT8.out (fun h => h)
          rw [e] at h1
          exact h1.ne h2 (by decide) rfl
        have hnbi : ¬ bi = W1.heap.size + 1 := fun e => by
          have h1 := HS8.out.at_
          have h2 := HBM7.out.turn HT8.out (fun h => h)
          rw [e] at h1
          exact h1.ne h2 (by decide) rfl
        have hl9 := HS8.out.list.turn hT9 hnbl
        have hi9 := HS8.out.at_.turn hT9 hnbi
        have hr9 := HS8.out.row.turn hT9 (fun g e h => by have := (HS8.out.row.blk g e).1; omega)
        have hm9 : Box w9 (W1.heap.size + 1) 164 (cs7.setIfInBounds q (.bool true)) := by
          rw [← hw9]
          exact (HBM7.out.turn HT8.out (fun h => h)).put q _
        have hT79 : Turn (fun b => b = W1.heap.size + 1) W2' w9 := (HT8.out.imp fun _ _ h => h.elim).trans hT9 fun _ _ h => h
        have HJ9 := Lib.hid (HJT.out _ _ _ w9 HJ7.out (hT79.imp fun i _ h => .inl (by rw [h]; exact o2)))
        have cy9 := hy9.cell 0
        have z0 := hj9.cell 0
        have z1 := hj9.cell 1
        have z2 := hj9.cell 2
        simp only [List.getElem?_toArray, List.getElem?_cons_zero, List.getElem?_cons_succ] at cy9 z0 z1 z2
        have HY9 := Lib.hid hy9
        have HL9 := Lib.hid hl9
        have HI9 := Lib.hid hi9
        have HR9 := Lib.hid hr9
        have HMB9 := Lib.hid hm9
        have HT79 := Lib.hid hT79
        have HT9 := Lib.hid hT9
        have HM9 := Lib.hid (HM8.out)
        have HPX := Lib.hid (show Q1 ++ [(q, ((a1 : Int), (a2 : Int), (a3 : Int)))] <+: reachL L p by rw [← HAJ.out]; exact HREA.out)
        have hbd9 : ∀ b, (Om b ∨ O1 b) → b < w9.heap.size := fun b h => by
          rcases h with h | h
          · have := (HBN.out b h).2.1; omega
          · have := (hOge b h).2; omega
        obtain ⟨fn, tmps, assign, body, hy, hR⟩ := HY.out _ Q1 (q, ((a1 : Int), (a2 : Int), (a3 : Int))) _ w9 HJ9.out rfl HPX.out hbd9
        have hR := RoundIn.inRoundT (l₀ := l2) (m' := 1) hR
        clear hy9 hj9 hl9 hi9 hr9 hm9 hT79 hT9 hbd9
        gi_wp2
        refine hR.mono ?_
        clear hR hy cy9 z0 z1 z2 hix hw9 hcm hfm
        rintro e WA ⟨(⟨rfl, hJA⟩ | ⟨rfl, hSA⟩), hTA⟩
        · have HJA2 := Lib.hid hJA
          have hszA := hTA.size
          have hin : ∀ b, Om b → ¬ ¬ (D b ∨ (Om b ∨ O1 b)) := fun b h h2 => h2 (.inr (.inl h))
          have hyA := HY9.out.turn hTA (hin _ o1)
          have hlA := HL9.out.turn hTA (hin _ o3)
          have hiA := HI9.out.turn hTA (hin _ o4)
          have hrA := HR9.out.turn hTA (fun g e => hin _ (o5 g e).1)
          have hmA := HMB9.out.turn hTA (hin _ o2)
          have HMA2 := Lib.hid ((HM9.out.cells HT9.out (fun b hb => by subst hb; exact ⟨_, _, _, HBM7.out.turn HT8.out (fun h => h)⟩)).turn hTA hin)
          have clA := hlA.cell 0
          simp only [List.getElem?_toArray, List.getElem?_cons_zero] at clA
          have hql : (natV (posL Q1)).length ≤ 1000000 := by
            have h1 := HPX.out.length_le
            have h2 := reachL_stays hn HK.out HPN.out
            simp [natV, posL] at h1 ⊢
            omega
          have hbsA : W1.heap.size + 2 ≤ WA.heap.size := by have := (HR9.out.blk); have := hmsz; omega
          have HYA := Lib.hid hyA
          have HLA := Lib.hid hlA
          have HIA := Lib.hid hiA
          have HRA7 := Lib.hid hrA
          have HMBA := Lib.hid hmA
          have HBNW := Lib.hid (Box.new WA 3 #[Value.int .i64 (q : Nat)])
          have HTA2 := Lib.hid hTA
          clear hJA hTA hyA hlA hiA hrA hmA hin
          gi_wp2_with (gi_at_builtin; refine wpListIn_addI _ rfl _ _ rfl (by rfl) rfl (HRA7.out.alloc _) WA.heap.size 1 (q : Nat) rfl HBNW.out hql (by simp; omega) ?_; intro v9 w10 hown9 hg9 hor9; replace hg9 : (WA.alloc (Obj.cells #[Value.int IntKind.i64 (q : Nat)] 3)).grownBy w10 (Value.slice (some ⟨g7, o7, none⟩) Q1.length k7).ownBlock := hg9; replace hor9 : v9.ownBlock = (Value.slice (some ⟨g7, o7, none⟩) Q1.length k7).ownBlock ∨ v9.ownBlock = some (WA.alloc (Obj.cells #[Value.int IntKind.i64 (q : Nat)] 3)).heap.size := hor9; have hbl10 := (HLA.out.alloc (Obj.cells #[Value.int IntKind.i64 (q : Nat)] 3)).grown hg9 (fun e => by obtain ⟨_, _, cur, hcur⟩ := HRA7.out.blk _ e.symm; exact HLA.out.ne hcur (by decide) rfl); have c10 := hbl10.cell 0; have f10 := hbl10.free 0; simp only [List.getElem?_toArray, List.getElem?_cons_zero] at c10; obtain ⟨AN, kN, hvN, -, -⟩ := hown9.rowA; rw [show (natV (posL Q1) ++ [((q : Nat) : Int)]).length = (natV (posL Q1)).length + 1 by simp] at hvN; subst hvN)
          have hw'A : w'.heap.size ≤ WA.heap.size := by have := HT9.out.size; omega
          have hTx := (((Turn.refl (fun b => b = bl ∨ (Value.slice (some ⟨g7, o7, none⟩) Q1.length k7).ownBlock = some b) WA).alloc (Obj.cells #[Value.int IntKind.i64 (q : Nat)] 3)).grown hg9 (fun k e => .inl (.inr e))).setCell (p := ⟨bl, 0, none⟩) (.inl (.inl rfl)) (Value.slice AN ((natV (posL Q1)).length + 1) kN)
          have hTl := (Turn.refl (fun b => b = bl) w10).setCell (p := ⟨bl, 0, none⟩) (.inl rfl) (Value.slice AN ((natV (posL Q1)).length + 1) kN)
          have hbl11 := hbl10.put 0 (Value.slice AN ((natV (posL Q1)).length + 1) kN)
          have hblk9 := hown9.blk
          obtain ⟨v9, hv9⟩ : ∃ v9, Value.slice AN ((natV (posL Q1)).length + 1) kN = v9 := ⟨_, rfl⟩
          rw [hv9] at hown9 hor9 hTx hTl hbl11 hblk9 ⊢
          obtain ⟨w11, hw11⟩ : ∃ w11, w10.setCell ⟨bl, 0, none⟩ v9 = w11 := ⟨_, rfl⟩
          rw [hw11] at hTx hTl hbl11 ⊢
          clear hv9 hw11
          have hnew : ∀ g, v9.ownBlock = some g → (Value.slice (some ⟨g7, o7, none⟩) Q1.length k7).ownBlock = some g ∨ g = WA.heap.size + 1 := fun g e => by
            rcases hor9 with h | h
            · exact .inl (h.symm.trans e)
            · rw [h] at e
              injection e with e
              right
              rw [← e]; simp
          have hrow7 := HRA7.out.blk
          have hxO : ∀ b, (b = bl ∨ (Value.slice (some ⟨g7, o7, none⟩) Q1.length k7).ownBlock = some b) → Om b ∧ b ≠ W.heap.size ∧ b ≠ W.heap.size + 1 := fun b h => by
            rcases h with h | h
            · subst h
              have := (HBA2.out _ HOA.out.2.2.1).2
              exact ⟨o3, by omega, by omega⟩
            · exact o5 b h
          have hnD : ∀ b, Om b → ¬ D b := fun b h hd => by
            have h1 := (HBN.out b h).1
            have h2 := HDS.out b hd
            omega
          refine ⟨?_, ?_⟩
          · unfold InnI
            refine ⟨fun b => Om b ∨ v9.ownBlock = some b, v9, Lib.hid ?_, Lib.hid ?_, Lib.hid ?_, Lib.hid ⟨.inl o1, .inl o2, .inl o3, .inl o4, fun g e => ⟨.inr e, ?_, ?_⟩, .inl o6, .inl o7'⟩, Lib.hid (fun b hb => ?_), HQ6, Lib.hid ?_⟩
            · rw [HADD.out, HAJ.out]
              refine HJT.out _ _ WA _ (HJE.out _ _ _ _ HJA2.out fun b h => ?_) (hTx.imp fun i _ h => .inl (.inl (hxO i h).1))
              rcases h with (h | h) | h
              · exact .inl (.inl h)
              · rcases hnew b h with h | h
                · exact .inl (.inl (o5 b h).1)
                · exact .inr (by omega)
              · exact .inl (.inr h)
            · rw [HADD.out, HAJ.out]
              refine ⟨HYA.out.turn hTx ?_, ⟨_, HMBA.out.turn hTx ?_, HMK7.out.put _⟩, ?_, ?_, HIA.out.turn hTx ?_, ?_⟩
              · rintro (h | h)
                · exact HYA.out.ne HLA.out (by decide) h
                · obtain ⟨_, _, cur, hcur⟩ := hrow7 _ h
                  exact HYA.out.ne hcur (by decide) rfl
              · rintro (h | h)
                · exact HMBA.out.ne HLA.out (by decide) h
                · obtain ⟨_, _, cur, hcur⟩ := hrow7 _ h
                  exact HMBA.out.ne hcur (by decide) rfl
              · simpa using hbl11
              · rw [posL_app]
                have h1 := hown9.turn hTl (fun g e h => by
                  obtain ⟨_, _, cur, hcur⟩ := hblk9 g e
                  exact hcur.ne hbl10 (by decide) h)
                simpa [natV] using h1
              · rintro (h | h)
                · exact HIA.out.ne HLA.out (by decide) h
                · exact HS7.out.apart _ h rfl
              · intro g e
                rcases hnew g e with h | h
                · exact HS7.out.apart _ h
                · have := HIA.out.lt
                  omega
            · refine (HMA2.out.cells hTx fun b hb => ?_).imp fun b h => .inl h
              rcases hb with h | h
              · subst h
                exact ⟨_, _, _, HLA.out⟩
              · obtain ⟨_, _, cur, hcur⟩ := hrow7 _ h
                exact ⟨_, _, _, hcur⟩
            · rcases hnew g e with h | h
              · exact (o5 g h).2.1
              · have := (HBN.out _ o6).2.1
                omega
            · rcases hnew g e with h | h
              · exact (o5 g h).2.2
              · have := (HBN.out _ o7').2.1
                omega
            · have hs11 := hTx.size
              rcases hb with h | h
              · obtain ⟨h1, h2, h3⟩ := HBN.out b h
                exact ⟨h1, by omega, h3⟩
              · rcases hnew b h with h' | h'
                · obtain ⟨h1, h2, h3⟩ := HBN.out b (o5 b h').1
                  exact ⟨h1, by omega, h3⟩
                · have h1 := (hblk9 b h).2.1
                  have h2 := hTl.size
                  have h4 := (HBN.out _ o6).1
                  have h5 := (HBN.out _ o6).2.1
                  refine ⟨by omega, by omega, fun h6 => ?_⟩
                  have := (hOge b h6).2
                  have := HTD8.out.size
                  have := HT8.out.size
                  omega
            · exact ((HTD8.out.trans HT9.out fun b _ h => hnD b (h ▸ o2)).trans HTA2.out fun b _ h hd => h (.inl hd)).trans hTx fun b _ h => hnD b (hxO b h).1
          · refine ((HT79.out.imp fun b _ h => ?_).trans HTA2.out fun b _ h => ?_).trans hTx fun b _ h => ?_
            · subst h
              have := (HBA2.out _ HOA.out.2.1).2
              exact ⟨⟨hnD _ o2, by omega, by omega⟩, (HBN.out _ o2).2.2⟩
            · exact ⟨⟨fun h2 => h (.inl h2), fun h2 => h (.inr (.inl (h2 ▸ o6))), fun h2 => h (.inr (.inl (h2 ▸ o7')))⟩, fun h2 => h (.inr (.inr h2))⟩
            · obtain ⟨h3, h4, h5⟩ := hxO b h
              exact ⟨⟨hnD b h3, h4, h5⟩, (HBN.out b h3).2.2⟩
        · have HSA2 := Lib.hid hSA
          have HTA2 := Lib.hid hTA
          clear hSA hTA
          gi_wp2
          refine ⟨?_, ?_⟩
          · unfold InnX
            exact ⟨rfl, Om, HSA2, Lib.hid ((HM9.out.cells HT9.out (fun b hb => by subst hb; exact ⟨_, _, _, HBM7.out.turn HT8.out (fun h => h)⟩)).turn HTA2.out (fun b h h2 => h2 (.inr (.inl h)))), Lib.hid (fun b h => (HBN.out b h).2.2)⟩
          · refine (HT79.out.imp fun b _ h => ?_).trans HTA2.out fun b _ h => ?_
            · subst h
              have h3 := (HBA2.out _ HOA.out.2.1).2
              have h1 := (HBN.out _ o2).1
              exact ⟨⟨fun hd => by have h2 := HDS.out _ hd; omega, by omega, by omega⟩, (HBN.out _ o2).2.2⟩
            · exact ⟨⟨fun h2 => h (.inl h2), fun h2 => h (.inr (.inl (h2 ▸ o6))), fun h2 => h (.inr (.inl (h2 ▸ o7')))⟩, fun h2 => h (.inr (.inr h2))⟩
      --ROUNDEND
  · have hle : (bfsK L p i).length ≤ i := by omega
    have hEnd := reachL_end hn HK.out HPN.out hle
    have HEN := Lib.hid hEnd
    have heq : i = (bfsK L p i).length := by omega
    have HEQ := Lib.hid heq
    have hltI : ¬ ((i : Int) < ((bfsK L p i).length : Int)) := by omega
    clear hle hEnd heq hlt
    gi_wp2
    refine Marked.leaves (fun W => results_none rfl _ _ _) HMA.out fun W' hT => ⟨rfl, O, .inl ?_⟩
    rw [← HEN.out]
    exact HJT.out _ _ _ _ HJA.out hT
end Go.Proofs.Ythbhengcinkepaa
