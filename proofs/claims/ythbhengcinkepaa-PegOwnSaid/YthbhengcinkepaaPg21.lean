/- Reached of package peg. -/
import Derived.Test.YthbhengcinkepaaPg11
import Derived.Test.YthbhengcinkepaaPg13
import Derived.Test.YthbhengcinkepaaShelf7
import Derived.Sort.OwnSortedInts
namespace Go.Proofs.Ythbhengcinkepaa
open Go.RowKit Go.Shelf Lamp

attribute [local go_sem] Oper.semAt_some


/-- The positions found, rising. -/
def sortedP (Q : List (Nat × Tri)) : List Int := (natV (posL Q)).mergeSort fun x y => decide (x ≤ y)

theorem OwnP.more {T : TypeId} {w : World} {base base' : Nat} {v : Value} {zs : List Int} (h : OwnP T w base v zs) (hb : base' ≤ base) : OwnP T w base' v zs := by
  rcases h.2 with ⟨e, hl⟩ | ⟨g, cap, cur, rfl, hb0, hh, h2, h3, h4⟩
  · exact ⟨h.1, .inl ⟨e, hl⟩⟩
  · exact ⟨h.1, .inr ⟨g, cap, cur, rfl, by omega, hh, h2, h3, h4⟩⟩
open Go.Sort in
theorem SortP_any (base : Nat) (v : Value) (zs : List Int) (w : World) (h : OwnP 3 w base v zs) (hl : zs.length ≤ 1000000) :
    Calls Try.prog 69 #[v] w fun e w' => e = .returned (.tuple #[]) ∧ OwnP 3 w' base v (zs.mergeSort fun x y => decide (x ≤ y)) ∧ w.grownBy w' v.ownBlock := by
  rcases h.2 with ⟨rfl, h1⟩ | ⟨g, cap, cur, rfl, hb, hh, h2, h3, h4⟩
  · have hnil : zs = [] := List.length_eq_zero_iff.1 h1
    subst hnil
    refine (Try.slices_Sort_int_none none 0 w).mono ?_
    rintro e w' ⟨rfl, rfl⟩
    exact ⟨rfl, by rw [List.mergeSort_nil]; exact OwnP.nil_ _ _ _, World.grownBy.refl _ _⟩
  · have hH : Holds (Value.int .i64) w g 0 zs.toArray := holds_of_blockI hh (by rw [← h4.2, Nat.mul_one])
    refine (Try.slices_Sort_int g 0 cap zs w hH (Box.lt hh) (by omega)).mono ?_
    rintro e w' ⟨rfl, n, os, rfl⟩
    refine ⟨rfl, ?_, grownBy_sortedI _⟩
    have h5 := ownsRow_sortedI (n := n) (os := os) (ts := zs.mergeSort fun x y => decide (x ≤ y)) (ss := zs) (by simp) hb hh h2 h3 h4.1
    unfold OwnP
    rw [List.length_mergeSort]
    exact h5

set_option maxRecDepth 100000 in
set_option maxHeartbeats 4000000 in
theorem Reached_ok (A : Option Addr) (c n p : Nat) (l : List Tri) (w : World) (hr : RTri w w.heap.size A l) (hc : checkT n l = 0) (hp : p < 2 ^ n) :
    Calls Try.prog 28 #[.int .i64 n, .slice A l.length c, .int .i64 p] w fun e w' => ∃ v, e = .returned (.tuple #[v, .int .i64 0]) ∧ OwnP 3 w' w.heap.size v (sortedP (reachL (jumpsL l) p)) ∧ Below w.heap.size w w' := by
  obtain ⟨hn1, hn16, hl, hg⟩ := checkT_zero hc
  have hn : n ≤ 16 := by omega
  refine (callsIn_wide (n := 6)).1 ?_
  have HC := Lib.hid (check_1 A n l p c w hr (by omega))
  have HZ := Lib.hid (show checkPs n l [(p : Int)] = 0 from checkPs_ok (xs := [p]) hc (by simpa using hp))
  have HR := Lib.hid hr
  have HOK := Lib.hid (jumpsL_ok (goodT_ok hg))
  have HJL := Lib.hid (jumpsL_len l)
  have HP := Lib.hid hp
  clear hr hc hg hp
  refine callsIn_of_wp_marks Try.func28 rfl trivial ?_ rfl
  simp only [Try.ntmps28, List.size_toArray, List.length_cons, List.length_nil, Nat.reduceAdd, Nat.reduceSub, Array.replicate_succ, Array.replicate_zero, List.push_toArray, List.append_toArray, List.nil_append, List.cons_append]
  gi_wp2
  refine ⟨trivial, (callsIn_wide.2 HC.out).mono ?_⟩
  rintro e w1 ⟨rfl, hb⟩
  rw [HZ.out]
  have HB := Lib.hid hb
  clear hb HC
  gi_wp2
  have hbf := Box.new w1 47 #[Value.slice none 0 0]
  have hB2 := HB.out.alloc HB.out.size (Obj.cells #[Value.slice none 0 0] 47)
  have hR2 := HR.out.up hB2
  obtain ⟨W2, hW2⟩ : ∃ W2, w1.alloc (Obj.cells #[Value.slice none 0 0] 47) = W2 := ⟨_, rfl⟩
  rw [hW2] at hbf hB2 hR2 ⊢
  clear hW2
  refine ⟨trivial, (callsIn_wide.2 (jumpsOf_any A c l W2 hR2 hl)).mono ?_⟩
  rintro e w3 ⟨A2, c2, rfl, hrt, hab, hb3⟩
  have HRT := Lib.hid hrt
  have HAB := Lib.hid hab
  have HBF := Lib.hid hbf
  have HB2 := Lib.hid hB2
  have HB3 := Lib.hid hb3
  have HS2 := Lib.hid hB2.size
  have hfl := hbf.lt
  have HFL := Lib.hid hfl
  clear hrt hab hbf hB2 hR2 hb3 hfl
  gi_wp2
  refine ⟨trivial, (callsIn_wide.2 (reached_any A2 (jumpsL l).length c2 p w3)).mono ?_⟩
  rintro e w4 ⟨rfl, rfl⟩
  have hba4 := (Box.new w3 102 #[Value.slice A2 (jumpsL l).length c2]).alloc (Obj.cells #[Value.int IntKind.i64 (p : Nat)] 3)
  have hbp4 := Box.new (w3.alloc (Obj.cells #[Value.slice A2 (jumpsL l).length c2] 102)) 3 #[Value.int IntKind.i64 (p : Nat)]
  rw [show (w3.alloc (Obj.cells #[Value.slice A2 (jumpsL l).length c2] 102)).heap.size = w3.heap.size + 1 by simp] at hbp4
  have hbe4 : Below w3.heap.size w3 ((w3.alloc (Obj.cells #[Value.slice A2 (jumpsL l).length c2] 102)).alloc (Obj.cells #[Value.int IntKind.i64 (p : Nat)] 3)) := ((Below.refl _ w3).alloc (Nat.le_refl _) _).alloc (by simp) _
  have hsz4 : ((w3.alloc (Obj.cells #[Value.slice A2 (jumpsL l).length c2] 102)).alloc (Obj.cells #[Value.int IntKind.i64 (p : Nat)] 3)).heap.size = w3.heap.size + 2 := by simp
  obtain ⟨W4, hW4⟩ : ∃ W4, (w3.alloc (Obj.cells #[Value.slice A2 (jumpsL l).length c2] 102)).alloc (Obj.cells #[Value.int IntKind.i64 (p : Nat)] 3) = W4 := ⟨_, rfl⟩
  rw [hW4] at hba4 hbp4 hbe4 hsz4 ⊢
  clear hW4
  have hs23 := HB3.out.size
  have HBA4 := Lib.hid hba4
  have HBP4 := Lib.hid hbp4
  have HBE4 := Lib.hid hbe4
  have HSZ4 := Lib.hid hsz4
  have HRT4 := Lib.hid (HRT.out.up hbe4)
  have HB24 := Lib.hid (HB3.out.trans (hbe4.mono hs23))
  have HBW4 := Lib.hid (HB2.out.trans (HB24.out.mono HS2.out))
  have HS23 := Lib.hid hs23
  have HBF4 := Lib.hid (HBF.out.below HB24.out HFL.out)
  clear hba4 hbp4 hbe4 hsz4 hs23
  gi_wp2
  have hmo : Try.prog.follows .mixedOrders = true := by kernel_rfl
  refine rangeT (m := 2) (gf := 108) (lb := #[.pointer (some ⟨w3.heap.size + 1, 0, none⟩), .pointer (some ⟨w3.heap.size, 0, none⟩)]) (E := IsReach) (fun x v W h => by rw [h]; rfl) rfl (enters_of Try.func108 (by kernel_rfl) rfl)
      (D := fun b => (∃ o, A2 = some ⟨b, o, none⟩) ∨ b = w3.heap.size + 1 ∨ b = w3.heap.size) (all := reachL (jumpsL l) p) (fun b hb => ?hD) ?hseq
      (fun O' pre W' => ∃ v, Hid (Box W' w1.heap.size 47 #[v]) ∧ Hid (OwnP 3 W' w3.heap.size v (natV (posL pre))) ∧ Hid (∀ g, v.ownBlock = some g → ¬ O' g ∧ w3.heap.size + 2 ≤ g) ∧ Hid (Below w.heap.size w W') ∧ Hid (∀ b, O' b → W4.heap.size ≤ b) ∧ Hid (W4.heap.size ≤ W'.heap.size))
      (fun _ _ _ => False)
      ?hI0 ?hIe ?hI ?hIx ?hround ?hdone ?hstop
  case hD =>
    have := HSZ4.out
    rcases hb with ⟨o, h⟩ | h | h
    · have := HAB.out b o h; omega
    · omega
    · omega
  case hseq =>
    intro W6 hb6
    have hs := HSZ4.out
    refine reached_seq (w3.heap.size + 1) w3.heap.size n p c2 A2 (jumpsL l) _ W6 hn HP.out HOK.out (by rw [HJL.out]; omega) (HBP4.out.below hb6 (by omega)) (HBA4.out.below hb6 (by omega)) ((HRT4.out.below hb6).more hb6.size) (fun b o e => .inl ⟨o, e⟩) (.inr (.inl rfl)) (.inr (.inr rfl)) (fun b hb => ?_)
    have h6 := hb6.size
    rcases hb with ⟨o, h⟩ | h | h
    · have := HAB.out b o h; omega
    · omega
    · omega
  case hI0 => exact ⟨_, HBF4, Lib.hid (OwnP.nil_ _ _ _), Lib.hid (fun g e => by cases e), HBW4, Lib.hid (fun _ h => h.elim), Lib.hid (Nat.le_refl _)⟩
  case hIe =>
    rintro O O' pre W ⟨v, i1, i2, i3, i4, i5, i6⟩ hx
    have h1 := i1.out.lt
    refine ⟨v, i1, i2, Lib.hid fun g e => ⟨fun ho => ?_, (i3.out g e).2⟩, i4, Lib.hid (fun b hb => ?_), i6⟩
    · rcases hx g ho with h | h
      · exact (i3.out g e).1 h
      · have := (i2.out.blk g e).2.1; omega
    · rcases hx b hb with h | h
      · exact i5.out b h
      · exact Nat.le_trans i6.out h
  case hI =>
    rintro O pre W W' ⟨v, i1, i2, i3, i4, i5, i6⟩ hT
    have hs4 := HSZ4.out
    have hs3 := HS23.out
    have hfl := HFL.out
    refine ⟨v, Lib.hid (i1.out.turn hT fun h => ?_), Lib.hid (i2.out.turn hT fun g e ho => (i3.out g e).1 ho), i3, Lib.hid (i4.out.trans (hT.toBelow i4.out.size fun b h ho => ?_)), i5, Lib.hid (Nat.le_trans i6.out hT.size)⟩
    · have := i5.out _ h; omega
    · have := i5.out _ ho; have := HB.out.size; omega
  case hIx => exact fun _ _ _ _ h _ => h
  case hstop => exact fun _ _ _ _ h => h.elim
  case hround =>
    rintro l2 O pre ⟨x, j⟩ v W ⟨vv, i1, i2, i3, i4, i5, i6⟩ hE hpre hl1 hl2 hOge ⟨r, hlr⟩
    have hE : v = #[.int .i64 (x : Nat), .agg #[.int .i64 j.1, .int .i64 j.2.1, .int .i64 j.2.2]] := hE
    subst hE
    have I1 := i1
    have I2 := i2
    have I3 := i3
    have I4 := i4
    have I5 := i5
    have I6 := i6
    have HLN := Lib.hid (hpre.length_le)
    have HRS := Lib.hid (reachL_stays hn HOK.out HP.out)
    have HNO := Lib.hid (show ∀ g, vv.ownBlock = some g → g ≠ l2 from fun g e h => (i3.out g e).1 (h ▸ hl1))
    have HLO := Lib.hid (hOge l2 hl1)
    clear i1 i2 i3 i4 i5 i6 hE hpre hlr
    gi_wp2
    refine ⟨Turn.refl _ _, ?_⟩
    rintro W7 hT7 -
    have j1 := I1.out.turn hT7 (fun h => by have := I5.out l2 hl1; have := HSZ4.out; have := HS23.out; have := HFL.out; omega)
    have j2 := I2.out.turn hT7 (fun g e => HNO.out g e)
    have j4 := I4.out.trans (hT7.toBelow I4.out.size fun b h ho => by have := I5.out l2 hl1; have := HSZ4.out; have := HS23.out; have := HFL.out; have := HB.out.size; omega)
    have hs7 := hT7.size
    obtain ⟨Z, hZ⟩ : ∃ Z, natV (posL pre) = Z := ⟨_, rfl⟩
    have HZ := Lib.hid hZ
    rw [hZ] at j2
    have hzl : Z.length ≤ 1000000 := by rw [← hZ, natV_len]; have h1 := HLN.out; have h2 := HRS.out; simp [posL] at h1 ⊢; omega
    have I3' := I3
    have hform : vv = .slice none 0 0 ∨ ∃ g k, vv = .slice (some ⟨g, 0, none⟩) Z.length k := by
      rcases j2.2 with ⟨h, _⟩ | ⟨g, cap, cur, h, _⟩
      · exact .inl h
      · exact .inr ⟨g, cap, h⟩
    have hb3 : w3.heap.size ≤ W7.heap.size := by have := hs7; have := (HLO.out).1; have := HLO.out.2; have := HSZ4.out; omega
    have hb1 : w1.heap.size < w3.heap.size := by have := HFL.out; have := HS23.out; omega
    have HNUM := Lib.hid (And.intro hs7 (And.intro hb3 hb1))
    have HZL := Lib.hid hzl
    have HOL := Lib.hid (show ∀ b, O b → b < W.heap.size from fun b h => (hOge b h).2)
    have HND := Lib.hid (show ∀ b, ((∃ o, A2 = some ⟨b, o, none⟩) ∨ b = w3.heap.size + 1 ∨ b = w3.heap.size) → b < w3.heap.size + 2 ∧ w1.heap.size < b from fun b h => by
      have h1 := HFL.out
      have h2 := HS23.out
      rcases h with ⟨o, h⟩ | h | h
      · have := HAB.out b o h; omega
      · omega
      · omega)
    have J1 := Lib.hid j1
    have J2 := Lib.hid j2
    have J4 := Lib.hid j4
    have J3 := I3
    have c7 := j1.cell 0
    simp only [List.getElem?_toArray, List.getElem?_cons_zero] at c7
    clear j1 j2 j4 hZ hT7 I1 I2 I3 I4 hs7 hb3 hb1 hzl hl1 hl2 hOge
    have hgoal : ∀ (v9 : Value) (w10 : World), OwnP 3 w10 w3.heap.size v9 (Z ++ [(x : Int)]) → (W7.alloc (Obj.cells #[Value.int IntKind.i64 (x : Nat)] 3)).grownBy w10 vv.ownBlock → (v9.ownBlock = vv.ownBlock ∨ v9.ownBlock = some (W7.alloc (Obj.cells #[Value.int IntKind.i64 (x : Nat)] 3)).heap.size) → (∃ v, Hid (Box (w10.setCell ⟨w1.heap.size, 0, none⟩ v9) w1.heap.size 47 #[v]) ∧ Hid (OwnP 3 (w10.setCell ⟨w1.heap.size, 0, none⟩ v9) w3.heap.size v (natV (posL (pre ++ [(x, j)])))) ∧ Hid (∀ g, v.ownBlock = some g → ¬ O g ∧ w3.heap.size + 2 ≤ g) ∧ Hid (Below w.heap.size w (w10.setCell ⟨w1.heap.size, 0, none⟩ v9)) ∧ Hid (∀ b, O b → W4.heap.size ≤ b) ∧ Hid (W4.heap.size ≤ (w10.setCell ⟨w1.heap.size, 0, none⟩ v9).heap.size)) ∧ Turn (fun b => ¬ (((∃ o, A2 = some ⟨b, o, none⟩) ∨ b = w3.heap.size + 1 ∨ b = w3.heap.size) ∨ O b)) W7 (w10.setCell ⟨w1.heap.size, 0, none⟩ v9) := by
      intro v9 w10 hown9 hg9 hor9
      have hsa : (W7.alloc (Obj.cells #[Value.int IntKind.i64 (x : Nat)] 3)).heap.size = W7.heap.size + 1 := by simp
      have hs10 := hg9.size
      rw [hsa] at hs10 hor9
      obtain ⟨n1, n2, n3⟩ := HNUM.out
      have hn6 := I6.out
      have hn4 := HSZ4.out
      have hne : ∀ g, v9.ownBlock = some g → ¬ O g ∧ w3.heap.size + 2 ≤ g := fun g e => by
        rcases hor9 with h | h
        · exact J3.out g (h.symm.trans e)
        · rw [h] at e
          have e := Option.some.inj e
          exact ⟨fun ho => by have := HOL.out g ho; omega, by omega⟩
      have hbx := ((J1.out.alloc (Obj.cells #[Value.int IntKind.i64 (x : Nat)] 3)).grown hg9 (fun e => by have := (J3.out _ e.symm).2; omega)).put 0 v9
      refine ⟨⟨v9, Lib.hid hbx, Lib.hid ?_, Lib.hid hne, Lib.hid ?_, I5, Lib.hid (by simp; omega)⟩, ?_⟩
      · rw [posL_app, natV, List.map_append]
        have h := hown9.turn ((Turn.refl (fun b => b = w1.heap.size) w10).setCell (p := ⟨w1.heap.size, 0, none⟩) (.inl rfl) v9) (fun g e h => by have := (hne g e).2; omega)
        rw [← HZ.out] at h
        exact h
      · refine Below.setCell (p := ⟨w1.heap.size, 0, none⟩) ?_ HB.out.size v9
        refine (J4.out.alloc J4.out.size _).grown hg9 (by rw [hsa]; have := J4.out.size; omega) (fun k hk => ?_)
        have := (J3.out k hk).2
        have := HB.out.size
        omega
      · have hT1 : Turn (fun b => ¬ (((∃ o, A2 = some ⟨b, o, none⟩) ∨ b = w3.heap.size + 1 ∨ b = w3.heap.size) ∨ O b)) W7 w10 := ((Turn.refl _ W7).alloc _).grown hg9 (fun k hk => .inl fun h => by
          rcases h with h | h
          · have e1 := (HND.out k h).1
            have e2 := (J3.out k hk).2
            omega
          · exact (J3.out k hk).1 h)
        refine hT1.setCell (p := ⟨w1.heap.size, 0, none⟩) (.inl fun h => ?_) v9
        rcases h with h | h
        · have e1 := (HND.out w1.heap.size h).2
          omega
        · have e1 := I5.out w1.heap.size h
          have e2 := (HND.out w3.heap.size (.inr (.inr rfl))).2
          omega
    have HGO := Lib.hid hgoal
    clear hgoal
    rcases hform with h | ⟨g0, k0, h⟩
    all_goals
      subst h
      gi_wp2_with (gi_at_builtin; refine wpListIn_addI _ rfl _ _ rfl (by rfl) rfl (J2.out.alloc _) W7.heap.size 1 (x : Nat) rfl (Box.new W7 3 #[Value.int .i64 (x : Nat)]) HZL.out (by have := HNUM.out; simp; omega) ?_; intro v9 w10 hown9 hg9 hor9; have hbl10 := (J1.out.alloc (Obj.cells #[Value.int IntKind.i64 (x : Nat)] 3)).grown hg9 (fun e => by have := (J3.out _ e.symm).2; have := HNUM.out; omega); have c10 := hbl10.cell 0; have f10 := hbl10.free 0; simp only [List.getElem?_toArray, List.getElem?_cons_zero] at c10; have HW9 := Lib.hid (HGO.out v9 w10 hown9 hg9 hor9); obtain ⟨AN, kN, hvN, -, -⟩ := hown9.rowA; rw [show (Z ++ [(x : Int)]).length = Z.length + 1 by simp] at hvN; clear hbl10 hown9 hg9 hor9; subst hvN)
      exact HW9.out
  case hdone =>
    rintro O W hO ⟨v, i1, i2, i3, i4, i5, i6⟩ hK
    have c1 := i1.out.cell 0
    simp only [List.getElem?_toArray, List.getElem?_cons_zero] at c1
    have HNV := Lib.hid (show ∀ g, v.ownBlock = some g → g ≠ w1.heap.size ∧ g ≠ W4.heap.size ∧ w.heap.size ≤ g from fun g e => by
      obtain ⟨h1, h2⟩ := i3.out g e
      have h3 := HFL.out
      have h4 := HS23.out
      have h5 := HB.out.size
      exact ⟨by omega, fun h => h1 (h ▸ hO), by omega⟩)
    have HLT := Lib.hid (show W4.heap.size < W.heap.size from (Array.getElem?_eq_some_iff.1 hK).1)
    have HLN := Lib.hid (show (natV (posL (reachL (jumpsL l) p))).length ≤ 1000000 by
      have h2 := reachL_stays hn HOK.out HP.out
      rw [natV_len]; simp [posL]; omega)
    have HSO := Lib.hid (SortP_any w3.heap.size v _ W i2.out HLN.out)
    have HBX := i1
    have HBW := i4
    have HK := Lib.hid hK
    clear i1 i2 i3 i4 i5 i6 hK hO
    gi_wp2
    refine ⟨trivial, (callsIn_wide.2 HSO.out).mono ?_⟩
    rintro e w9 ⟨rfl, ho9, hg9⟩
    have hbx9 := HBX.out.grown hg9 (fun e => (HNV.out _ e.symm).1 rfl)
    have c9 := hbx9.cell 0
    simp only [List.getElem?_toArray, List.getElem?_cons_zero] at c9
    have HK9 := Lib.hid (show w9.heap[W4.heap.size]? = some (.deferred (some [])) from (hg9.block _ HLT.out (fun e => (HNV.out _ e.symm).2.1 rfl)).trans HK.out)
    have HB9 := Lib.hid (show Below w.heap.size w w9 from HBW.out.grown hg9 HBW.out.size (fun k hk => (HNV.out k hk).2.2))
    have HO9 := Lib.hid ho9
    clear hbx9 ho9 hg9 c1
    gi_wp2
    refine ⟨by simp, .inl ⟨_, _, rfl, run_takeDeferred HK9.out, .tuple #[v, .int .i64 0], by simp [results, Try.results28, go_sem], v, rfl, ?_, HB9.out.trans (Turn.toBelow (X := fun b => b = W4.heap.size) (Turn.putO (X := fun b => b = W4.heap.size) (Turn.refl _ w9) (.inl rfl) _) HB9.out.size (by have := HBW4.out.size; omega))⟩⟩
    exact (HO9.out.turn (Turn.putO (X := fun b => b = W4.heap.size) (Turn.refl _ w9) (.inl rfl) _) (fun g e => (HNV.out g e).2.1)).more (by have h1 := HS23.out; have h2 := HS2.out; exact Nat.le_trans h2 h1)
end Go.Proofs.Ythbhengcinkepaa
