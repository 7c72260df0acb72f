/- Solve of package peg. -/
import Derived.Test.YthbhengcinkepaaPg11
import Derived.Test.YthbhengcinkepaaPg13
import Derived.Test.YthbhengcinkepaaPg17
namespace Go.Proofs.Ythbhengcinkepaa
open Go.RowKit Go.Shelf Lamp

attribute [local go_sem] Oper.semAt_some

theorem find_none {Q : List (Nat × Tri)} {x : Nat} (h : hasQ Q x = false) : Q.find? (fun e => e.1 == x) = none := by
  rw [List.find?_eq_none]
  intro e he hx
  unfold hasQ at h
  rw [List.any_eq_false] at h
  exact h e he hx
theorem lastQ_snoc {Q : List (Nat × Tri)} {x : Nat} (j : Tri) (h : hasQ Q x = false) (y : Nat) : updJ (lastQ Q) x j y = lastQ (Q ++ [(x, j)]) y := by
  unfold updJ lastQ
  rw [List.find?_append]
  by_cases e : y = x
  · subst e
    rw [find_none h]
    simp
  · have h1 : ([(x, j)] : List (Nat × Tri)).find? (fun e => e.1 == y) = none := by
      have : (x == y) = false := by simpa using fun h => e h.symm
      simp [List.find?, this]
    rw [h1, if_neg e]
    simp
theorem Once.initial {Q R : List (Nat × Tri)} (h : Once Q) (hR : R <+: Q) : Once R := by
  unfold Once at *
  exact h.sublist ((hR.sublist).map _)
theorem Once.fresh {Q : List (Nat × Tri)} {x : Nat} {j : Tri} (h : Once (Q ++ [(x, j)])) : hasQ Q x = false := by
  cases hh : hasQ Q x with
  | false => rfl
  | true =>
    obtain ⟨j', hj⟩ := hasQ_iff.1 hh
    unfold Once at h
    rw [List.map_append, List.nodup_append] at h
    exact absurd rfl (h.2.2 x (List.mem_map.2 ⟨_, hj, rfl⟩) x (by simp))

/-- What Solve holds between two rounds. -/
def SolI (bm bc bq r8 r9 r10 q : Nat) (w : World) (lim : Nat) (O : Nat → Prop) (pre : List (Nat × Tri)) (W : World) : Prop :=
  Hid (MapJ W bm pre.length (lastQ pre)) ∧ Hid (Box W bc 111 #[.map (some bm)]) ∧ Hid (Box W bq 3 #[.int .i64 (q : Nat)]) ∧ (Hid (Box W r8 22 #[.slice none 0 0]) ∧ Hid (Box W r9 4 #[.bool false]) ∧ Hid (Box W r10 26 #[.int .i64 0])) ∧ Hid (Below w.heap.size w W) ∧ Hid (∀ b, O b → lim ≤ b) ∧ hasQ pre q = false
/-- What it holds when a round has left the search. -/
def SolX (r8 r9 r10 p q : Nat) (all : List Tri) (w : World) (lim : Nat) (cx : Code) (O : Nat → Prop) (W : World) : Prop :=
  cx = .ret ∧ ∃ A c g, Hid (Box W r8 22 #[.slice A (List.length g) c]) ∧ Hid (Box W r9 4 #[.bool true]) ∧ Hid (Box W r10 26 #[.int .i64 0]) ∧ Hid (RTri W W.heap.size A g) ∧ Hid (∀ b o, A = some ⟨b, o, none⟩ → w.heap.size ≤ b ∧ ¬ O b) ∧ Game all p g q ∧ Hid (Below w.heap.size w W) ∧ Hid (∀ b, O b → lim ≤ b)

set_option maxRecDepth 100000 in
set_option maxHeartbeats 4000000 in
theorem Solve_ok (A : Option Addr) (c n p q : Nat) (l : List Tri) (w : World) (hr : RTri w w.heap.size A l) (hc : checkT n l = 0) (hp : p < 2 ^ n) (hq : q < 2 ^ n) :
    Calls Try.prog 26 #[.int .i64 n, .slice A l.length c, .int .i64 p, .int .i64 q] w fun e w' => (∃ A2 c2 g, e = .returned (.tuple #[.slice A2 (List.length g) c2, .bool true, .int .i64 0]) ∧ RTri w' w'.heap.size A2 g ∧ (∀ b o, A2 = some ⟨b, o, none⟩ → w.heap.size ≤ b) ∧ Game (jumpsL l) p g q ∧ Below w.heap.size w w') ∨ e = .returned (.tuple #[.slice none 0 0, .bool false, .int .i64 0]) ∧ hasQ (reachL (jumpsL l) p) q = false ∧ Below w.heap.size w w' := by
  obtain ⟨hn1, hn16, hl, hg⟩ := checkT_zero hc
  have hn : n ≤ 16 := by omega
  refine (callsIn_wide (n := 6)).1 ?_
  have HZ := Lib.hid (show checkPs n l [(p : Int), (q : Int)] = 0 from checkPs_ok (xs := [p, q]) hc (by simp; exact ⟨hp, hq⟩))
  have HR := Lib.hid hr
  have HOK := Lib.hid (jumpsL_ok (goodT_ok hg))
  have HJL := Lib.hid (jumpsL_len l)
  have HP := Lib.hid hp
  have HQQ := Lib.hid hq
  clear hr hc hg hp hq
  refine callsIn_of_wp_marks Try.func26 rfl trivial ?_ rfl
  simp only [Try.ntmps26, List.size_toArray, List.length_cons, List.length_nil, Nat.reduceAdd, Nat.reduceSub, Array.replicate_succ, Array.replicate_zero, List.push_toArray, List.append_toArray, List.nil_append, List.cons_append]
  gi_wp2
  have b0 := (((Box.new w 3 #[Value.int IntKind.i64 (q : Nat)]).alloc (Obj.cells #[Value.slice none 0 0] 22)).alloc (Obj.cells #[Value.bool false] 4)).alloc (Obj.cells #[Value.int IntKind.i64 0] 26)
  have b1 := ((Box.new (w.alloc (Obj.cells #[Value.int IntKind.i64 (q : Nat)] 3)) 22 #[Value.slice none 0 0]).alloc (Obj.cells #[Value.bool false] 4)).alloc (Obj.cells #[Value.int IntKind.i64 0] 26)
  have b2 := (Box.new ((w.alloc (Obj.cells #[Value.int IntKind.i64 (q : Nat)] 3)).alloc (Obj.cells #[Value.slice none 0 0] 22)) 4 #[Value.bool false]).alloc (Obj.cells #[Value.int IntKind.i64 0] 26)
  have b3 := Box.new (((w.alloc (Obj.cells #[Value.int IntKind.i64 (q : Nat)] 3)).alloc (Obj.cells #[Value.slice none 0 0] 22)).alloc (Obj.cells #[Value.bool false] 4)) 26 #[Value.int IntKind.i64 0]
  have hB0 : Below w.heap.size w ((((w.alloc (Obj.cells #[Value.int IntKind.i64 (q : Nat)] 3)).alloc (Obj.cells #[Value.slice none 0 0] 22)).alloc (Obj.cells #[Value.bool false] 4)).alloc (Obj.cells #[Value.int IntKind.i64 0] 26)) := ((((Below.refl _ w).alloc (Nat.le_refl _) _).alloc (by simp) _).alloc (by simp; omega) _).alloc (by simp; omega) _
  have hs0 : ((((w.alloc (Obj.cells #[Value.int IntKind.i64 (q : Nat)] 3)).alloc (Obj.cells #[Value.slice none 0 0] 22)).alloc (Obj.cells #[Value.bool false] 4)).alloc (Obj.cells #[Value.int IntKind.i64 0] 26)).heap.size = w.heap.size + 1 + 1 + 1 + 1 := by simp
  simp only [World.size_alloc] at b0 b1 b2 b3
  obtain ⟨W0, hW0⟩ : ∃ W0, (((w.alloc (Obj.cells #[Value.int IntKind.i64 (q : Nat)] 3)).alloc (Obj.cells #[Value.slice none 0 0] 22)).alloc (Obj.cells #[Value.bool false] 4)).alloc (Obj.cells #[Value.int IntKind.i64 0] 26) = W0 := ⟨_, rfl⟩
  rw [hW0] at b0 b1 b2 b3 hB0 hs0 ⊢
  rw [← hs0]
  obtain ⟨r8, h8⟩ : ∃ r8, w.heap.size + 1 = r8 := ⟨_, rfl⟩
  obtain ⟨r9, h9⟩ : ∃ r9, r8 + 1 = r9 := ⟨_, rfl⟩
  obtain ⟨r10, h10⟩ : ∃ r10, r9 + 1 = r10 := ⟨_, rfl⟩
  rw [h8, h9, h10] at hs0 b3
  rw [h8, h9] at b2
  rw [h8] at b1
  rw [h8, h9, h10]
  have H8 := Lib.hid h8
  have H9 := Lib.hid h9
  have H10 := Lib.hid h10
  have HS0 := Lib.hid hs0
  have HR0 := Lib.hid (HR.out.up hB0)
  have HC := Lib.hid (check_2 A n l p q c W0 HR0.out (by omega))
  have HB00 := Lib.hid b0
  have HB01 := Lib.hid b1
  have HB02 := Lib.hid b2
  have HB03 := Lib.hid b3
  have HBW := Lib.hid hB0
  clear hW0 h8 h9 h10 hs0 b0 b1 b2 b3 hB0
  refine ⟨trivial, (callsIn_wide.2 HC.out).mono ?_⟩
  rintro e w1 ⟨rfl, hb⟩
  rw [HZ.out]
  have HB := Lib.hid hb
  have HS1 := Lib.hid hb.size
  have HB1 := Lib.hid (HBW.out.trans (hb.mono HBW.out.size))
  have q0 := HB00.out.below hb HB00.out.lt
  have q1 := HB01.out.below hb HB01.out.lt
  have q2 := HB02.out.below hb HB02.out.lt
  have q3 := HB03.out.below hb HB03.out.lt
  have HQ0 := Lib.hid q0
  have HQ1 := Lib.hid q1
  have HQ2 := Lib.hid q2
  have HQ3 := Lib.hid q3
  clear hb HC q0 q1 q2 q3
  have hmk := run_makeMap (P := Try.prog) 111 w1
  gi_wp2
  clear hmk
  have hbm := (MapJ.new w1).alloc (Obj.cells #[Value.map (some w1.heap.size)] 111)
  have hbc := Box.new (w1.alloc (.map #[] 0)) 111 #[Value.map (some w1.heap.size)]
  rw [show (w1.alloc (.map #[] 0)).heap.size = w1.heap.size + 1 by simp] at hbc
  have hs2 : ((w1.alloc (.map #[] 0)).alloc (Obj.cells #[Value.map (some w1.heap.size)] 111)).heap.size = w1.heap.size + 2 := by simp
  have hB2 := (HB1.out.alloc HB1.out.size (.map #[] 0)).alloc (by have := HB1.out.size; simp; omega) (Obj.cells #[Value.map (some w1.heap.size)] 111)
  have hR2 := HR.out.up hB2
  have hpr := And.intro ((HQ0.out.alloc (.map #[] 0)).alloc (Obj.cells #[Value.map (some w1.heap.size)] 111)) (And.intro ((HQ1.out.alloc (.map #[] 0)).alloc (Obj.cells #[Value.map (some w1.heap.size)] 111)) (And.intro ((HQ2.out.alloc (.map #[] 0)).alloc (Obj.cells #[Value.map (some w1.heap.size)] 111)) ((HQ3.out.alloc (.map #[] 0)).alloc (Obj.cells #[Value.map (some w1.heap.size)] 111))))
  obtain ⟨W2, hW2⟩ : ∃ W2, (w1.alloc (.map #[] 0)).alloc (Obj.cells #[Value.map (some w1.heap.size)] 111) = W2 := ⟨_, rfl⟩
  rw [hW2] at hbm hbc hs2 hB2 hR2 hpr ⊢
  clear hW2 HQ0 HQ1 HQ2 HQ3
  refine ⟨trivial, (callsIn_wide.2 (jumpsOf_any A c l W2 hR2 hl)).mono ?_⟩
  rintro e w3 ⟨A2, c2, rfl, hrt, hab, hb3⟩
  have HRT := Lib.hid hrt
  have HAB := Lib.hid hab
  have HBM := Lib.hid hbm
  have HBC := Lib.hid hbc
  have HPR := Lib.hid hpr
  have HB2 := Lib.hid hB2
  have HB3 := Lib.hid hb3
  have HS2 := Lib.hid hB2.size
  have HS12 := Lib.hid hs2
  clear hrt hab hbm hbc hB2 hR2 hb3 hs2 hpr
  gi_wp2
  refine ⟨trivial, (callsIn_wide.2 (reached_any A2 (jumpsL l).length c2 p w3)).mono ?_⟩
  rintro e w4 ⟨rfl, rfl⟩
  have hba4 := (Box.new w3 102 #[Value.slice A2 (jumpsL l).length c2]).alloc (Obj.cells #[Value.int IntKind.i64 (p : Nat)] 3)
  have hbp4 := Box.new (w3.alloc (Obj.cells #[Value.slice A2 (jumpsL l).length c2] 102)) 3 #[Value.int IntKind.i64 (p : Nat)]
  rw [show (w3.alloc (Obj.cells #[Value.slice A2 (jumpsL l).length c2] 102)).heap.size = w3.heap.size + 1 by simp] at hbp4
  have hbe4 : Below w3.heap.size w3 ((w3.alloc (Obj.cells #[Value.slice A2 (jumpsL l).length c2] 102)).alloc (Obj.cells #[Value.int IntKind.i64 (p : Nat)] 3)) := ((Below.refl _ w3).alloc (Nat.le_refl _) _).alloc (by simp) _
  have hsz4 : ((w3.alloc (Obj.cells #[Value.slice A2 (jumpsL l).length c2] 102)).alloc (Obj.cells #[Value.int IntKind.i64 (p : Nat)] 3)).heap.size = w3.heap.size + 2 := by simp
  obtain ⟨W4, hW4⟩ : ∃ W4, (w3.alloc (Obj.cells #[Value.slice A2 (jumpsL l).length c2] 102)).alloc (Obj.cells #[Value.int IntKind.i64 (p : Nat)] 3) = W4 := ⟨_, rfl⟩
  rw [hW4] at hba4 hbp4 hbe4 hsz4 ⊢
  clear hW4
  have hs23 := HB3.out.size
  have HBA4 := Lib.hid hba4
  have HBP4 := Lib.hid hbp4
  have HBE4 := Lib.hid hbe4
  have HSZ4 := Lib.hid hsz4
  have HRT4 := Lib.hid (HRT.out.up hbe4)
  have HB24 := Lib.hid (HB3.out.trans (hbe4.mono hs23))
  have HBW4 := Lib.hid (HB2.out.trans (HB24.out.mono HS2.out))
  have HS23 := Lib.hid hs23
  have HMM4 := Lib.hid (HBM.out.below HB24.out HBM.out.lt)
  have HBC4 := Lib.hid (HBC.out.below HB24.out HBC.out.lt)
  have HPR4 := Lib.hid (show Box W4 w.heap.size 3 #[.int .i64 (q : Nat)] ∧ Box W4 r8 22 #[Value.slice none 0 0] ∧ Box W4 r9 4 #[Value.bool false] ∧ Box W4 r10 26 #[.int .i64 0] from ⟨HPR.out.1.below HB24.out HPR.out.1.lt, HPR.out.2.1.below HB24.out HPR.out.2.1.lt, HPR.out.2.2.1.below HB24.out HPR.out.2.2.1.lt, HPR.out.2.2.2.below HB24.out HPR.out.2.2.2.lt⟩)
  clear hba4 hbp4 hbe4 hsz4 hs23
  gi_wp2
  have HLT := Lib.hid (show w.heap.size < r8 ∧ r8 < r9 ∧ r9 < r10 ∧ r10 < w1.heap.size from by have h1 := H8.out; have h2 := H9.out; have h3 := H10.out; have h4 := HS0.out; have h5 := HS1.out; omega)
  have HIN := Lib.hid (show ∀ b, b < W2.heap.size → ¬ ((∃ o, A2 = some ⟨b, o, none⟩) ∨ b = w3.heap.size + 1 ∨ b = w3.heap.size) from fun b hb h => by
    have h2 := HS23.out
    rcases h with ⟨o, h⟩ | h | h
    · have := HAB.out b o h; omega
    · omega
    · omega)
  refine rangeT (m := 3) (gf := 108) (lb := #[.pointer (some ⟨w3.heap.size + 1, 0, none⟩), .pointer (some ⟨w3.heap.size, 0, none⟩)]) (E := IsReach) (fun x v W h => by rw [h]; rfl) rfl (enters_of Try.func108 (by kernel_rfl) rfl)
      (D := fun b => (∃ o, A2 = some ⟨b, o, none⟩) ∨ b = w3.heap.size + 1 ∨ b = w3.heap.size) (all := reachL (jumpsL l) p) (fun b hb => ?hD) ?hseq
      (fun O' pre W' => SolI w1.heap.size (w1.heap.size + 1) w.heap.size r8 r9 r10 q w W2.heap.size O' pre W')
      (fun cx O' W' => SolX r8 r9 r10 p q (jumpsL l) w W2.heap.size cx O' W')
      ?hI0 ?hIe ?hI ?hIx ?hround ?hdone ?hstop
  case hD =>
    have := HSZ4.out
    rcases hb with ⟨o, h⟩ | h | h
    · have := HAB.out b o h; omega
    · omega
    · omega
  case hseq =>
    intro W6 hb6
    have hs := HSZ4.out
    refine reached_seq (w3.heap.size + 1) w3.heap.size n p c2 A2 (jumpsL l) _ W6 hn HP.out HOK.out (by rw [HJL.out]; omega) (HBP4.out.below hb6 (by omega)) (HBA4.out.below hb6 (by omega)) ((HRT4.out.below hb6).more hb6.size) (fun b o e => .inl ⟨o, e⟩) (.inr (.inl rfl)) (.inr (.inr rfl)) (fun b hb => ?_)
    have h6 := hb6.size
    rcases hb with ⟨o, h⟩ | h | h
    · have := HAB.out b o h; omega
    · omega
    · omega
  case hI0 =>
    unfold SolI
    exact ⟨Lib.hid (HMM4.out.congr fun x _ => rfl), HBC4, Lib.hid HPR4.out.1, ⟨Lib.hid HPR4.out.2.1, Lib.hid HPR4.out.2.2.1, Lib.hid HPR4.out.2.2.2⟩, HBW4, Lib.hid fun _ h => h.elim, rfl⟩
  case hIe =>
    rintro O O' pre W ⟨i1, i2, i3, i4, i5, i6, i7⟩ hx
    unfold SolI
    refine ⟨i1, i2, i3, i4, i5, Lib.hid fun b hb => ?_, i7⟩
    rcases hx b hb with h | h
    · exact i6.out b h
    · have := i2.out.lt; have := HS12.out; omega
  case hI =>
    rintro O pre W W' ⟨i1, i2, i3, ⟨i8, i9, i10⟩, i5, i6, i7⟩ hT
    have hlt := HLT.out
    have h12 := HS12.out
    have hno : ∀ b, b < W2.heap.size → ¬ O b := fun b h ho => by have := i6.out b ho; omega
    unfold SolI
    exact ⟨Lib.hid (i1.out.turn hT (hno _ (by omega))), Lib.hid (i2.out.turn hT (hno _ (by omega))), Lib.hid (i3.out.turn hT (hno _ (by omega))), ⟨Lib.hid (i8.out.turn hT (hno _ (by omega))), Lib.hid (i9.out.turn hT (hno _ (by omega))), Lib.hid (i10.out.turn hT (hno _ (by omega)))⟩, Lib.hid (i5.out.trans (hT.toBelow i5.out.size fun b h ho => by have := i6.out b ho; omega)), i6, i7⟩
  case hIx =>
    rintro cx O W W' ⟨rfl, Ag, cg, g, i8, i9, i10, ir, ib, ig, i5, i6⟩ hT
    have hlt := HLT.out
    have h12 := HS12.out
    have hno : ∀ b, b < W2.heap.size → ¬ O b := fun b h ho => by have := i6.out b ho; omega
    unfold SolX
    refine ⟨rfl, Ag, cg, g, Lib.hid (i8.out.turn hT (hno _ (by omega))), Lib.hid (i9.out.turn hT (hno _ (by omega))), Lib.hid (i10.out.turn hT (hno _ (by omega))), Lib.hid (fun j u hu => ?_), ib, ig, Lib.hid (i5.out.trans (hT.toBelow i5.out.size fun b h ho => by have := i6.out b ho; omega)), i6⟩
    obtain ⟨b, o, e, hb, hc⟩ := ir.out j u hu
    exact ⟨b, o, e, Nat.lt_of_lt_of_le hb hT.size, (hT.cell (p := ⟨b, o + j, none⟩) hb (ib.out b o e).2).trans hc⟩
  case hround =>
    rintro l2 O pre ⟨x, j⟩ v W ⟨i1, i2, i3, ⟨i8, i9, i10⟩, i5, i6, i7⟩ hE hpre hl1 hl2 hOge ⟨r, hlr⟩
    have hE : v = #[.int .i64 (x : Nat), .agg #[.int .i64 j.1, .int .i64 j.2.1, .int .i64 j.2.2]] := hE
    subst hE
    have hONC := (bfsK_once (jumpsL l) p 65536).initial hpre
    have HLN := Lib.hid (hpre.length_le)
    have HFR := Lib.hid hONC.fresh
    have HON := Lib.hid hONC
    have HPRE := Lib.hid hpre
    have hxm : x < 65536 := Nat.lt_of_lt_of_le (bfsK_lt HOK.out HP.out 65536 _ (hpre.subset (show (x, j) ∈ pre ++ [(x, j)] by simp))) (Nat.pow_le_pow_right (n := 2) (by decide) hn)
    have HXM := Lib.hid hxm
    have HLT2 := Lib.hid hlr
    have hlt := HLT.out
    have h12 := HS12.out
    have hW4 := HSZ4.out
    clear hE hpre hONC hxm hlr
    gi_wp2
    refine ⟨(Turn.refl _ _).alloc _, ?_⟩
    rintro W7 hT7 -
    have hbj0 := Box.new W 105 #[Value.int .i64 j.1, Value.int .i64 j.2.1, Value.int .i64 j.2.2]
    have hTa : Turn (fun b => b = l2) W W7 := ((Turn.refl (fun b => b = l2) W).alloc _).trans hT7 (fun _ _ h => h)
    have hl2g : W2.heap.size ≤ l2 := i6.out l2 hl1
    have j1 := i1.out.turn hTa (by omega)
    have j2 := i2.out.turn hTa (by omega)
    have j3 := i3.out.turn hTa (by omega)
    have j8 := i8.out.turn hTa (by omega)
    have j9 := i9.out.turn hTa (by omega)
    have j10 := i10.out.turn hTa (by omega)
    have j5 := i5.out.trans (hTa.toBelow i5.out.size fun b h ho => by omega)
    have hjlt : l2 ≠ W.heap.size := fun e => by have := (hOge l2 hl1).2; omega
    have jj := hbj0.turn hT7 (fun e => hjlt e.symm)
    have J1 := Lib.hid j1
    have J2 := Lib.hid j2
    have J3 := Lib.hid j3
    have J8 := Lib.hid j8
    have J9 := Lib.hid j9
    have J10 := Lib.hid j10
    have J5 := Lib.hid j5
    have J6 := i6
    have J7 := Lib.hid i7
    have JJ := Lib.hid jj
    have x2 := j2.cell 0
    have y0 := jj.cell 0
    have y1 := jj.cell 1
    have y2 := jj.cell 2
    simp only [List.getElem?_toArray, List.getElem?_cons_zero, List.getElem?_cons_succ] at x2 y0 y1 y2
    have hs7 := hTa.size
    have hWge : W2.heap.size ≤ W.heap.size := Nat.le_trans hl2g (Nat.le_of_lt (hOge l2 hl1).2)
    have hpl : pre.length < 1000000000 := by
      have h1 := HLN.out
      have h2 := reachL_stays hn HOK.out HP.out
      simp at h1
      omega
    clear hbj0 hTa hT7 i1 i2 i3 i5 i6 i7 i8 i9 i10 j1 j2 j3 j5 j8 j9 j10 jj
    have HNUM := Lib.hid (And.intro hs7 (And.intro hWge (And.intro hl2g hjlt)))
    by_cases hxq : x = q
    · subst hxq
      gi_wp2_with (gi_at_mapUpdate; refine wpListIn_storeJ _ rfl _ _ _ rfl rfl J1.out hpl x j rfl rfl HXM.out ?_; intro w8 hm8 hg8; have k2 := J2.out.grown hg8 (fun e => by have e2 := Option.some.inj e; omega); have k3 := J3.out.grown hg8 (fun e => by have e2 := Option.some.inj e; omega); have k8 := J8.out.grown hg8 (fun e => by have e2 := Option.some.inj e; omega); have k9 := J9.out.grown hg8 (fun e => by have e2 := Option.some.inj e; omega); have k10 := J10.out.grown hg8 (fun e => by have e2 := Option.some.inj e; omega); have z2 := k2.cell 0; have z3 := k3.cell 0; simp only [List.getElem?_toArray, List.getElem?_cons_zero] at z2 z3)
      have hQ := List.getElem?_append_right (l₁ := pre) (l₂ := [(x, j)]) (i := pre.length) (Nat.le_refl _)
      simp only [Nat.sub_self, List.getElem?_cons_zero] at hQ
      have HFB := Lib.hid (followBack_any w1.heap.size (pre.length + 1) n p x pre.length j (jumpsL l) (pre ++ [(x, j)]) w8 hn HOK.out ((bfsK_linked (jumpsL l) p 65536).initial HPRE.out) HON.out (fun e he => Nat.lt_of_lt_of_le (bfsK_lt HOK.out HP.out 65536 _ (HPRE.out.subset he)) (Nat.pow_le_pow_right (n := 2) (by decide) hn)) (by have h1 := HLN.out; have h2 := reachL_stays hn HOK.out HP.out; omega) (hm8.congr fun y _ => lastQ_snoc j HFR.out y) hQ)
      refine ⟨trivial, (CallsIn.inRound l2 (callsIn_wide.2 HFB.out)).mono ?_⟩
      rintro e w9 ⟨Ag, cg, g, rfl, hrt, hag, hgm, hb9⟩
      have hTg : Turn (fun b => b = w1.heap.size) W7 w8 := (Turn.refl (fun b => b = w1.heap.size) W7).grown hg8 (fun k e => .inl (Option.some.inj e).symm)
      have hTb : Turn (fun _ => False) w8 w9 := (Turn.refl _ _).below hb9 (Nat.le_refl _)
      have m8 := k8.below hb9 k8.lt
      have m9 := k9.below hb9 k9.lt
      have m10 := k10.below hb9 k10.lt
      have n8 := m8.cell 0
      have n9 := m9.cell 0
      have n10 := m10.cell 0
      have o8 := m8.free 0
      have o9 := m9.free 0
      have o10 := m10.free 0
      simp only [List.getElem?_toArray, List.getElem?_cons_zero] at n8 n9 n10
      have HRT5 := Lib.hid hrt
      have HAG := Lib.hid hag
      have HGM := Lib.hid hgm
      have HTG := Lib.hid hTg
      have HTB := Lib.hid hTb
      have M8 := Lib.hid m8
      have M9 := Lib.hid m9
      have M10 := Lib.hid m10
      clear hrt hag hgm hb9 hTg hTb m8 m9 m10 z2 z3 k2 k3 k8 k9 k10 hg8 hm8 hQ HFB x2 y0 y1 y2
      gi_wp2_with fail
      have HL := HLT.out
      obtain ⟨L1, L2, L3, L4⟩ := HL
      have hT3 := (((Turn.refl (fun b => b = r8 ∨ b = r9 ∨ b = r10) w9).setCell (p := ⟨r8, 0, none⟩) (.inl (.inl rfl)) (Value.slice Ag g.length cg)).setCell (p := ⟨r9, 0, none⟩) (.inl (.inr (.inl rfl))) (Value.bool true)).setCell (p := ⟨r10, 0, none⟩) (.inl (.inr (.inr rfl))) (Value.int .i64 0)
      have hw9 := HTB.out.size
      have hw8 := HTG.out.size
      have hn7 := HNUM.out.1
      have h12' := HS12.out
      refine ⟨?_, ?_⟩
      · unfold SolX
        refine ⟨rfl, Ag, cg, g, Lib.hid ?_, Lib.hid ?_, Lib.hid ?_, Lib.hid (fun i u hu => ?_), Lib.hid (fun b o e => ?_), HGM.out, Lib.hid ?_, J6⟩
        · exact ((M8.out.put 0 (Value.slice Ag g.length cg)).far (p := ⟨r9, 0, none⟩) (by show r8 ≠ r9; omega) _).far (p := ⟨r10, 0, none⟩) (by show r8 ≠ r10; omega) _
        · exact ((M9.out.far (p := ⟨r8, 0, none⟩) (by show r9 ≠ r8; omega) _).put 0 (Value.bool true)).far (p := ⟨r10, 0, none⟩) (by show r9 ≠ r10; omega) _
        · exact ((M10.out.far (p := ⟨r8, 0, none⟩) (by show r10 ≠ r8; omega) _).far (p := ⟨r9, 0, none⟩) (by show r10 ≠ r9; omega) _).put 0 _
        · obtain ⟨b, o, e, hb, hc⟩ := HRT5.out i u hu
          have := HAG.out b o e
          exact ⟨b, o, e, Nat.lt_of_lt_of_le hb hT3.size, (hT3.cell (p := ⟨b, o + i, none⟩) hb (by show ¬ (b = r8 ∨ b = r9 ∨ b = r10); have := HNUM.out.2.1; omega)).trans hc⟩
        · have h1 := HAG.out b o e
          have h2 := HNUM.out.2.1
          exact ⟨by omega, fun ho => by have := (hOge b ho).2; omega⟩
        · exact ((J5.out.trans (HTG.out.toBelow J5.out.size (by omega))).trans (HTB.out.toBelow (by have := J5.out.size; omega) (fun _ _ h => h))).trans (hT3.toBelow (by have := J5.out.size; omega) (by omega))
      · refine ((HTG.out.imp fun b _ h => ?_).trans HTB.out fun _ _ h => h.elim).trans hT3 fun b _ h => ?_
        · rintro (h2 | h2)
          · exact HIN.out b (by omega) h2
          · have := J6.out b h2; omega
        · rintro (h2 | h2)
          · exact HIN.out b (by omega) h2
          · have := J6.out b h2; omega
    · have hne : ¬ (x : Int) = (q : Int) := by omega
      have HGG := Lib.hid (show (w1.heap.size + 1 ≠ w1.heap.size ∧ w.heap.size ≠ w1.heap.size) ∧ r8 ≠ w1.heap.size ∧ r9 ≠ w1.heap.size ∧ r10 ≠ w1.heap.size by omega)
      have HLAST := Lib.hid (And.intro hlt (And.intro h12 hW4))
      have HXQ := Lib.hid hxq
      clear hlt h12 hW4 hs7 hWge hl2g hjlt hxq
      clear hne
      gi_wp2_with (gi_at_mapUpdate; refine wpListIn_storeJ _ rfl _ _ _ rfl rfl J1.out hpl x j rfl rfl HXM.out ?_; intro w8 hm8 hg8; have k3 := J3.out.grown hg8 (fun e => HGG.out.1.2 (Option.some.inj e)); have z3 := k3.cell 0; simp only [List.getElem?_toArray, List.getElem?_cons_zero] at z3; have HM8 := Lib.hid hm8; have HG8 := Lib.hid hg8; have hne : ((x : Int) == (q : Int)) = false := (by have := HXQ.out; simp; omega); clear k3 hm8 hg8 hpl y0 y1 y2 x2)
      obtain ⟨L1, L2, L3, L4⟩ := HLT.out
      have hTg : Turn (fun b => b = w1.heap.size) W7 w8 := (Turn.refl (fun b => b = w1.heap.size) W7).grown HG8.out (fun k e => .inl (Option.some.inj e).symm)
      have h12' := HS12.out
      refine ⟨?_, ?_⟩
      · unfold SolI
        refine ⟨Lib.hid ?_, Lib.hid (J2.out.turn hTg (by omega)), Lib.hid (J3.out.turn hTg (by omega)), ⟨Lib.hid (J8.out.turn hTg (by omega)), Lib.hid (J9.out.turn hTg (by omega)), Lib.hid (J10.out.turn hTg (by omega))⟩, Lib.hid (J5.out.trans (hTg.toBelow J5.out.size (by omega))), J6, ?_⟩
        · rw [List.length_append]
          exact HM8.out.congr fun y _ => lastQ_snoc j HFR.out y
        · rw [hasQ_app, J7.out]
          have := HXQ.out
          simp [hasQ, this]
      · refine hTg.imp fun b _ h => ?_
        rintro (h2 | h2)
        · exact HIN.out b (by omega) h2
        · have := J6.out b h2; omega
  case hdone =>
    rintro O W hO ⟨i1, i2, i3, ⟨i8, i9, i10⟩, i5, i6, i7⟩ hK
    have x8 := i8.out.cell 0
    have x9 := i9.out.cell 0
    have x10 := i10.out.cell 0
    have f8 := i8.out.free 0
    have f9 := i9.out.free 0
    have f10 := i10.out.free 0
    simp only [List.getElem?_toArray, List.getElem?_cons_zero] at x8 x9 x10
    have I8 := i8
    have I9 := i9
    have I10 := i10
    have I5 := i5
    have HK := Lib.hid hK
    have HNO := Lib.hid i7
    clear i1 i2 i3 i5 i6 i7 i8 i9 i10 hK
    have hlt := HLT.out
    obtain ⟨u1, u2, u3, u4⟩ := hlt
    gi_wp2_with fail
    have h5 := (Array.getElem?_eq_some_iff.1 HK.out).1
    have h12' := HS12.out
    have hW24 := HB24.out.size
    have hX := (((Turn.refl (fun b => b = r8 ∨ b = r9 ∨ b = r10) W).setCell (p := ⟨r8, 0, none⟩) (.inl (.inl rfl)) (Value.slice none 0 0)).setCell (p := ⟨r9, 0, none⟩) (.inl (.inr (.inl rfl))) (Value.bool false)).setCell (p := ⟨r10, 0, none⟩) (.inl (.inr (.inr rfl))) (Value.int .i64 0)
    have e8 := ((I8.out.put 0 (Value.slice none 0 0)).far (p := ⟨r9, 0, none⟩) (by show r8 ≠ r9; omega) (Value.bool false)).far (p := ⟨r10, 0, none⟩) (by show r8 ≠ r10; omega) (Value.int .i64 0)
    have e9 := ((I9.out.far (p := ⟨r8, 0, none⟩) (by show r9 ≠ r8; omega) (Value.slice none 0 0)).put 0 (Value.bool false)).far (p := ⟨r10, 0, none⟩) (by show r9 ≠ r10; omega) (Value.int .i64 0)
    have e10 := ((I10.out.far (p := ⟨r8, 0, none⟩) (by show r10 ≠ r8; omega) (Value.slice none 0 0)).far (p := ⟨r9, 0, none⟩) (by show r10 ≠ r9; omega) (Value.bool false)).put 0 (Value.int .i64 0)
    obtain ⟨V, hV⟩ : ∃ V, ((W.setCell ⟨r8, 0, none⟩ (Value.slice none 0 0)).setCell ⟨r9, 0, none⟩ (Value.bool false)).setCell ⟨r10, 0, none⟩ (Value.int .i64 0) = V := ⟨_, rfl⟩
    rw [hV] at hX e8 e9 e10 ⊢
    have hKV : V.heap[W4.heap.size]? = some (.deferred (some [])) := (hX.2 _ h5 (by omega)).trans HK.out
    have hT : Turn (fun b => b = W4.heap.size) V (V.putObj W4.heap.size (.deferred none)) := Turn.putO (X := fun b => b = W4.heap.size) (Turn.refl _ V) (.inl rfl) _
    have t8 := (e8.turn hT (by omega)).cell 0
    have t9 := (e9.turn hT (by omega)).cell 0
    have t10 := (e10.turn hT (by omega)).cell 0
    simp only [List.setIfInBounds_toArray, List.set_cons_zero, List.getElem?_toArray, List.getElem?_cons_zero] at t8 t9 t10
    have hBV := I5.out.trans (hX.toBelow I5.out.size (by omega))
    refine ⟨by simp, .inl ⟨_, _, rfl, run_takeDeferred hKV, .tuple #[.slice none 0 0, .bool false, .int .i64 0], by simp [results, Try.results26, go_sem, t8, t9, t10], ?_⟩⟩
    exact Or.inr ⟨rfl, HNO.out, hBV.trans (hT.toBelow hBV.size (by have := HBW4.out.size; omega))⟩
  case hstop =>
    rintro cx O W hO ⟨rfl, Ag, cg, g, i8, i9, i10, ir, ib, ig, i5, i6⟩ hK
    have h5 := (Array.getElem?_eq_some_iff.1 hK).1
    have hT : Turn (fun b => b = W4.heap.size) W (W.putObj W4.heap.size (.deferred none)) := Turn.putO (X := fun b => b = W4.heap.size) (Turn.refl _ W) (.inl rfl) _
    have hlt := HLT.out
    have h12 := HS12.out
    have hW24 := HB24.out.size
    have t8 := (i8.out.turn hT (by omega)).cell 0
    have t9 := (i9.out.turn hT (by omega)).cell 0
    have t10 := (i10.out.turn hT (by omega)).cell 0
    simp only [List.getElem?_toArray, List.getElem?_cons_zero] at t8 t9 t10
    gi_wp2
    refine ⟨by simp, .inl ⟨_, _, rfl, run_takeDeferred hK, .tuple #[.slice Ag g.length cg, .bool true, .int .i64 0], by simp [results, Try.results26, go_sem, t8, t9, t10], ?_⟩⟩
    refine Or.inl ⟨Ag, cg, g, rfl, ?_, fun b o e => (ib.out b o e).1, ig, i5.out.trans (hT.toBelow i5.out.size (by omega))⟩
    intro j u hu
    obtain ⟨b, o, e, hb, hc⟩ := ir.out j u hu
    exact ⟨b, o, e, Nat.lt_of_lt_of_le hb hT.size, (hT.cell (p := ⟨b, o + j, none⟩) hb (fun h => (ib.out b o e).2 (by have h2 : b = W4.heap.size := h; rw [h2]; exact hO))).trans hc⟩
end Go.Proofs.Ythbhengcinkepaa
