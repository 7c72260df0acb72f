/- Fewest of package peg. -/
import Derived.Test.YthbhengcinkepaaPg11
import Derived.Test.YthbhengcinkepaaPg13
import Derived.Test.YthbhengcinkepaaOnesC
namespace Go.Proofs.Ythbhengcinkepaa
open Go.RowKit Go.Shelf Lamp

attribute [local go_sem] Oper.semAt_some

/-- The fewest pegs, of n and of the positions found. -/
def fewN (n : Nat) (Q : List (Nat × Tri)) : Nat := (Q.map fun e => popc e.1).foldl min n
theorem fewN_snoc (n : Nat) (Q : List (Nat × Tri)) (e : Nat × Tri) : fewN n (Q ++ [e]) = min (fewN n Q) (popc e.1) := by simp [fewN]

set_option maxRecDepth 100000 in
set_option maxHeartbeats 4000000 in
theorem Fewest_ok (A : Option Addr) (c n p : Nat) (l : List Tri) (w : World) (hr : RTri w w.heap.size A l) (hc : checkT n l = 0) (hp : p < 2 ^ n) :
    Calls Try.prog 29 #[.int .i64 n, .slice A l.length c, .int .i64 p] w fun e w' => e = .returned (.tuple #[.int .i64 (fewN n (reachL (jumpsL l) p) : Nat), .int .i64 0]) ∧ Below w.heap.size w w' := by
  obtain ⟨hn1, hn16, hl, hg⟩ := checkT_zero hc
  have hn : n ≤ 16 := by omega
  refine (callsIn_wide (n := 5)).1 ?_
  have HC := Lib.hid (check_1 A n l p c w hr (by omega))
  have HZ := Lib.hid (show checkPs n l [(p : Int)] = 0 from checkPs_ok (xs := [p]) hc (by simpa using hp))
  have HR := Lib.hid hr
  have HOK := Lib.hid (jumpsL_ok (goodT_ok hg))
  have HJL := Lib.hid (jumpsL_len l)
  have HP := Lib.hid hp
  clear hr hc hg hp
  refine callsIn_of_wp_marks Try.func29 rfl trivial ?_ rfl
  simp only [Try.ntmps29, List.size_toArray, List.length_cons, List.length_nil, Nat.reduceAdd, Nat.reduceSub, Array.replicate_succ, Array.replicate_zero, List.push_toArray, List.append_toArray, List.nil_append, List.cons_append]
  gi_wp2
  refine ⟨trivial, (callsIn_wide.2 HC.out).mono ?_⟩
  rintro e w1 ⟨rfl, hb⟩
  rw [HZ.out]
  have HB := Lib.hid hb
  clear hb HC
  gi_wp2
  have hbf := Box.new w1 3 #[Value.int IntKind.i64 (n : Nat)]
  have hB2 := HB.out.alloc HB.out.size (Obj.cells #[Value.int IntKind.i64 (n : Nat)] 3)
  have hR2 := HR.out.up hB2
  obtain ⟨W2, hW2⟩ : ∃ W2, w1.alloc (Obj.cells #[Value.int IntKind.i64 (n : Nat)] 3) = W2 := ⟨_, rfl⟩
  rw [hW2] at hbf hB2 hR2 ⊢
  clear hW2
  refine ⟨trivial, (callsIn_wide.2 (jumpsOf_any A c l W2 hR2 hl)).mono ?_⟩
  rintro e w3 ⟨A2, c2, rfl, hrt, hab, hb3⟩
  have HRT := Lib.hid hrt
  have HAB := Lib.hid hab
  have HBF := Lib.hid hbf
  have HB2 := Lib.hid hB2
  have HB3 := Lib.hid hb3
  have HS2 := Lib.hid hB2.size
  have hfl := hbf.lt
  have HFL := Lib.hid hfl
  clear hrt hab hbf hB2 hR2 hb3 hfl
  gi_wp2
  refine ⟨trivial, (callsIn_wide.2 (reached_any A2 (jumpsL l).length c2 p w3)).mono ?_⟩
  rintro e w4 ⟨rfl, rfl⟩
  have hba4 := (Box.new w3 102 #[Value.slice A2 (jumpsL l).length c2]).alloc (Obj.cells #[Value.int IntKind.i64 (p : Nat)] 3)
  have hbp4 := Box.new (w3.alloc (Obj.cells #[Value.slice A2 (jumpsL l).length c2] 102)) 3 #[Value.int IntKind.i64 (p : Nat)]
  rw [show (w3.alloc (Obj.cells #[Value.slice A2 (jumpsL l).length c2] 102)).heap.size = w3.heap.size + 1 by simp] at hbp4
  have hbe4 : Below w3.heap.size w3 ((w3.alloc (Obj.cells #[Value.slice A2 (jumpsL l).length c2] 102)).alloc (Obj.cells #[Value.int IntKind.i64 (p : Nat)] 3)) := ((Below.refl _ w3).alloc (Nat.le_refl _) _).alloc (by simp) _
  have hsz4 : ((w3.alloc (Obj.cells #[Value.slice A2 (jumpsL l).length c2] 102)).alloc (Obj.cells #[Value.int IntKind.i64 (p : Nat)] 3)).heap.size = w3.heap.size + 2 := by simp
  obtain ⟨W4, hW4⟩ : ∃ W4, (w3.alloc (Obj.cells #[Value.slice A2 (jumpsL l).length c2] 102)).alloc (Obj.cells #[Value.int IntKind.i64 (p : Nat)] 3) = W4 := ⟨_, rfl⟩
  rw [hW4] at hba4 hbp4 hbe4 hsz4 ⊢
  clear hW4
  have hs23 := HB3.out.size
  have HBA4 := Lib.hid hba4
  have HBP4 := Lib.hid hbp4
  have HBE4 := Lib.hid hbe4
  have HSZ4 := Lib.hid hsz4
  have HRT4 := Lib.hid (HRT.out.up hbe4)
  have HB24 := Lib.hid (HB3.out.trans (hbe4.mono hs23))
  have HBW4 := Lib.hid (HB2.out.trans (HB24.out.mono HS2.out))
  have HS23 := Lib.hid hs23
  have HBF4 := Lib.hid (HBF.out.below HB24.out HFL.out)
  clear hba4 hbp4 hbe4 hsz4 hs23
  gi_wp2
  have hmo : Try.prog.follows .mixedOrders = true := by kernel_rfl
  refine rangeT (m := 2) (gf := 108) (lb := #[.pointer (some ⟨w3.heap.size + 1, 0, none⟩), .pointer (some ⟨w3.heap.size, 0, none⟩)]) (E := IsReach) (fun x v W h => by rw [h]; rfl) rfl (enters_of Try.func108 (by kernel_rfl) rfl)
      (D := fun b => (∃ o, A2 = some ⟨b, o, none⟩) ∨ b = w3.heap.size + 1 ∨ b = w3.heap.size) (all := reachL (jumpsL l) p) (fun b hb => ?hD) ?hseq
      (fun O' pre W' => Hid (Box W' w1.heap.size 3 #[.int .i64 (fewN n pre : Nat)]) ∧ Hid (Below w.heap.size w W') ∧ Hid (∀ b, O' b → w1.heap.size < b))
      (fun _ _ _ => False)
      ?hI0 ?hIe ?hI ?hIx ?hround ?hdone ?hstop
  case hD =>
    have := HSZ4.out
    rcases hb with ⟨o, h⟩ | h | h
    · have := HAB.out b o h; omega
    · omega
    · omega
  case hseq =>
    intro W6 hb6
    have hs := HSZ4.out
    refine reached_seq (w3.heap.size + 1) w3.heap.size n p c2 A2 (jumpsL l) _ W6 hn HP.out HOK.out (by rw [HJL.out]; omega) (HBP4.out.below hb6 (by omega)) (HBA4.out.below hb6 (by omega)) ((HRT4.out.below hb6).more hb6.size) (fun b o e => .inl ⟨o, e⟩) (.inr (.inl rfl)) (.inr (.inr rfl)) (fun b hb => ?_)
    have h6 := hb6.size
    rcases hb with ⟨o, h⟩ | h | h
    · have := HAB.out b o h; omega
    · omega
    · omega
  case hI0 => exact ⟨HBF4, HBW4, Lib.hid fun _ h => h.elim⟩
  case hIe =>
    rintro O O' pre W ⟨i1, i2, i3⟩ hx
    refine ⟨i1, i2, Lib.hid fun b hb => ?_⟩
    rcases hx b hb with h | h
    · exact i3.out b h
    · have := i1.out.lt; omega
  case hI =>
    rintro O pre W W' ⟨i1, i2, i3⟩ hT
    refine ⟨Lib.hid (i1.out.turn hT fun h => ?_), Lib.hid (i2.out.trans (hT.toBelow i2.out.size fun b h ho => ?_)), i3⟩
    · have := i3.out _ h; omega
    · have := i3.out _ ho; have := HB.out.size; omega
  case hIx => exact fun _ _ _ _ h _ => h
  case hstop => exact fun _ _ _ _ h => h.elim
  case hround =>
    rintro l2 O pre ⟨x, j⟩ v W ⟨i1, i2, i3⟩ hE hpre hl1 hl2 hOge ⟨r, hlr⟩
    have hE : v = #[.int .i64 (x : Nat), .agg #[.int .i64 j.1, .int .i64 j.2.1, .int .i64 j.2.2]] := hE
    subst hE
    have I1 := i1
    have I2 := i2
    have I3 := i3
    have hxm : x < 65536 := Nat.lt_of_lt_of_le (bfsK_lt HOK.out HP.out 65536 _ (hpre.subset (show (x, j) ∈ pre ++ [(x, j)] by simp))) (Nat.pow_le_pow_right (n := 2) (by decide) hn)
    have HXM := Lib.hid hxm
    clear i1 i2 i3 hE hpre hlr hxm
    gi_wp2
    refine ⟨Turn.refl _ _, ?_⟩
    rintro W7 hT7 -
    have hb7 := I1.out.turn hT7 (fun h => by have := I3.out l2 hl1; omega)
    have c7 := hb7.cell 0
    have f7 := hb7.free 0
    simp only [List.getElem?_toArray, List.getElem?_cons_zero] at c7
    have HB7 := Lib.hid hb7
    have HU := Lib.hid (u64_in (x := (x : Int)) (by omega) (by have := HXM.out; omega))
    obtain ⟨b, hb⟩ : ∃ b, fewN n pre = b := ⟨_, rfl⟩
    rw [hb] at c7 HB7
    have HBE := Lib.hid hb
    obtain ⟨q, hq⟩ : ∃ q, popc x = q := ⟨_, rfl⟩
    have HQ := Lib.hid hq
    have HONE := Lib.hid (OnesCount_any x (W7.drewN 1) HXM.out)
    rw [hq] at HONE
    have H7B := Lib.hid (I2.out.trans (hT7.toBelow I2.out.size fun b h ho => by have := I3.out l2 hl1; have := HB.out.size; omega))
    have HS1 := Lib.hid HB.out.size
    have hnf : ¬ ¬ (((∃ o, A2 = some ⟨w1.heap.size, o, none⟩) ∨ w1.heap.size = w3.heap.size + 1 ∨ w1.heap.size = w3.heap.size) ∨ O w1.heap.size) → False := fun h => by
      have h1 := HFL.out
      have h2 := HS23.out
      refine h fun h => ?_
      rcases h with (⟨o, h⟩ | h | h) | h
      · have := HAB.out _ o h; omega
      · omega
      · omega
      · have := I3.out _ h; omega
    have HNF := Lib.hid (show ¬ (((∃ o, A2 = some ⟨w1.heap.size, o, none⟩) ∨ w1.heap.size = w3.heap.size + 1 ∨ w1.heap.size = w3.heap.size) ∨ O w1.heap.size) from fun h => hnf fun h2 => h2 h)
    clear hb7 hb hq hT7 hnf
    gi_wp2
    refine held_round (S := (fun _ => True)) hmo (by kernel_rfl) (fun h => by obtain ⟨_, _, h⟩ := h; exact h) trivial (fun hHeld => ?_)
    refine wpAnyH_take (i := 1) (v := ?_) rfl (by kernel_rfl) (by kernel_rfl) (by kernel_rfl) (fun _ _ _ h => h) (Or.inl ⟨by rfl, ?_⟩) (by assumption) ?_
    rotate_left
    · (intro w hSw; (try dsimp only at hSw); go_simp <;> (with_reducible rfl))
    try simp only [Act.put, List.setIfInBounds_toArray, List.set_cons_zero, List.set_cons_succ, List.getElem_toArray, List.getElem_cons_zero, List.getElem_cons_succ]
    refine wpAnyH_take (i := 2) (v := ?_) rfl (by kernel_rfl) (by kernel_rfl) (by kernel_rfl) (fun _ _ _ h => h) (Or.inl ⟨by rfl, ?_⟩) (by assumption) ?_
    rotate_left
    · (intro w hSw; (try dsimp only at hSw); go_simp <;> (with_reducible rfl))
    try simp only [Act.put, List.setIfInBounds_toArray, List.set_cons_zero, List.set_cons_succ, List.getElem_toArray, List.getElem_cons_zero, List.getElem_cons_succ]
    refine wpAnyH_ready (rs := [0, 3]) (by kernel_rfl) (by simp) ?_
    refine AllReadyH.cons rfl (fun K hK => ?_) (AllReadyH.cons rfl (fun K hK => ?_) AllReadyH.nil)
    · go_simp
      refine hK.out _ _ trivial (fun hHeld => ?_)
      clear hK K
      try simp only [Act.put, List.setIfInBounds_toArray, List.set_cons_zero, List.set_cons_succ, List.getElem_toArray, List.getElem_cons_zero, List.getElem_cons_succ]
      refine wpAnyH_ready (rs := [3]) (by kernel_rfl) (by simp) ?_
      refine AllReadyH.cons rfl (fun K hK => ?_) AllReadyH.nil
      go_simp
      go_at_call 70
      rw [HU.out]
      refine HONE.out.mono ?_
      rintro e w' ⟨rfl, rfl⟩
      go_wp2_with fail
      refine hK.out _ _ trivial (fun hHeld => ?_)
      clear hK K
      try simp only [Act.put, List.setIfInBounds_toArray, List.set_cons_zero, List.set_cons_succ, List.getElem_toArray, List.getElem_cons_zero, List.getElem_cons_succ]
      refine wpAnyH_ready (rs := [4]) (by kernel_rfl) (by simp) ?_
      refine AllReadyH.cons rfl (fun K hK => ?_) AllReadyH.nil
      go_simp
      refine hK.out _ _ trivial (fun hHeld => ?_)
      clear hK K
      try simp only [Act.put, List.setIfInBounds_toArray, List.set_cons_zero, List.set_cons_succ, List.getElem_toArray, List.getElem_cons_zero, List.getElem_cons_succ]
      refine wpAnyH_ready (rs := [5]) (by kernel_rfl) (by simp) ?_
      refine AllReadyH.cons rfl (fun K hK => ?_) AllReadyH.nil
      go_simp
      refine hK.out _ _ trivial (fun hHeld => ?_)
      clear hK K
      try simp only [Act.put, List.setIfInBounds_toArray, List.set_cons_zero, List.set_cons_succ, List.getElem_toArray, List.getElem_cons_zero, List.getElem_cons_succ]
      refine wpAnyH_done (by kernel_rfl) ?_ _
      refine ⟨⟨Lib.hid ?_, Lib.hid ?_, I3⟩, ?_⟩
      · rw [fewN_snoc, HBE.out, HQ.out, show ((min b q : Nat) : Int) = min (b : Int) (q : Int) by omega]
        exact (HB7.out.drewN 1).put 0 _
      · exact (below_drewN H7B.out 1).setCell (p := ⟨w1.heap.size, 0, none⟩) HS1.out _
      · exact ((Turn.refl _ W7).drewN 1).setCell (p := ⟨w1.heap.size, 0, none⟩) (.inl HNF.out) _
    · go_simp
      go_at_call 70
      rw [HU.out]
      refine HONE.out.mono ?_
      rintro e w' ⟨rfl, rfl⟩
      go_wp2_with fail
      refine hK.out _ _ trivial (fun hHeld => ?_)
      clear hK K
      try simp only [Act.put, List.setIfInBounds_toArray, List.set_cons_zero, List.set_cons_succ, List.getElem_toArray, List.getElem_cons_zero, List.getElem_cons_succ]
      refine wpAnyH_ready (rs := [0]) (by kernel_rfl) (by simp) ?_
      refine AllReadyH.cons rfl (fun K hK => ?_) AllReadyH.nil
      go_simp
      refine hK.out _ _ trivial (fun hHeld => ?_)
      clear hK K
      try simp only [Act.put, List.setIfInBounds_toArray, List.set_cons_zero, List.set_cons_succ, List.getElem_toArray, List.getElem_cons_zero, List.getElem_cons_succ]
      refine wpAnyH_ready (rs := [4]) (by kernel_rfl) (by simp) ?_
      refine AllReadyH.cons rfl (fun K hK => ?_) AllReadyH.nil
      go_simp
      refine hK.out _ _ trivial (fun hHeld => ?_)
      clear hK K
      try simp only [Act.put, List.setIfInBounds_toArray, List.set_cons_zero, List.set_cons_succ, List.getElem_toArray, List.getElem_cons_zero, List.getElem_cons_succ]
      refine wpAnyH_ready (rs := [5]) (by kernel_rfl) (by simp) ?_
      refine AllReadyH.cons rfl (fun K hK => ?_) AllReadyH.nil
      go_simp
      refine hK.out _ _ trivial (fun hHeld => ?_)
      clear hK K
      try simp only [Act.put, List.setIfInBounds_toArray, List.set_cons_zero, List.set_cons_succ, List.getElem_toArray, List.getElem_cons_zero, List.getElem_cons_succ]
      refine wpAnyH_done (by kernel_rfl) ?_ _
      refine ⟨⟨Lib.hid ?_, Lib.hid ?_, I3⟩, ?_⟩
      · rw [fewN_snoc, HBE.out, HQ.out, show ((min b q : Nat) : Int) = min (b : Int) (q : Int) by omega]
        exact (HB7.out.drewN 1).put 0 _
      · exact (below_drewN H7B.out 1).setCell (p := ⟨w1.heap.size, 0, none⟩) HS1.out _
      · exact ((Turn.refl _ W7).drewN 1).setCell (p := ⟨w1.heap.size, 0, none⟩) (.inl HNF.out) _
  case hdone =>
    rintro O W hO ⟨i1, i2, i3⟩ hK
    have c1 := i1.out.cell 0
    simp only [List.getElem?_toArray, List.getElem?_cons_zero] at c1
    have I2 := i2
    have HK := Lib.hid hK
    clear i1 i2 i3 hK
    gi_wp2
    refine ⟨by simp, .inl ⟨_, _, rfl, run_takeDeferred HK.out, .tuple #[.int .i64 (fewN n (reachL (jumpsL l) p) : Nat), .int .i64 0], by simp [results, Try.results29, go_sem], rfl, ?_⟩⟩
    exact I2.out.trans (Turn.toBelow (X := fun b => b = W4.heap.size) (Turn.putO (X := fun b => b = W4.heap.size) (Turn.refl _ W) (.inl rfl) _) I2.out.size (by have := HBW4.out.size; omega))
end Go.Proofs.Ythbhengcinkepaa
