/- Jumps of package peg: the jumps that can be made. -/
import Derived.Test.YthbhengcinkepaaPg11
import Derived.Test.YthbhengcinkepaaPg12
import Derived.Test.YthbhengcinkepaaPg7
namespace Go.Proofs.Ythbhengcinkepaa
open Go.RowKit Go.Shelf Lamp

attribute [local go_sem] Oper.semAt_some

/-- The append of one triple to a row of one's own, within a fence. -/
theorem wpListIn_addT {F : Fence} {n : Nat} (w : World) {ops : Array Oper} {rest : List Oper} {o : Oper} {a : Act} {Q : Exit → Act → World → Prop} (hgd : o.guard = none) (s x : Operand)
    (ho : o.op = .call { callee := .builtin .append, args := #[s, x], argTypes := #[22, 22] }) (hab : o.about Try.prog w a.eval = none) {base : Nat} {v : Value} {l : List Tri} (hs : a.eval s = v) (hown : OwnT 30 w base v l)
    (ad c : Nat) (p q r : Int) (hx : a.eval x = .slice (some ⟨ad, 0, none⟩) 1 c) (hb : Box w ad 30 #[.int .i64 p, .int .i64 q, .int .i64 r]) (hl : l.length ≤ 1000000) (hbase : base ≤ w.heap.size)
    (h : ∀ v' w', OwnT 30 w' base v' (l ++ [(p, q, r)]) → w.grownBy w' v.ownBlock → (v'.ownBlock = v.ownBlock ∨ v'.ownBlock = some w.heap.size) → wpListIn F n Try.prog ops Q rest (a.put o.dst v') w') :
    wpListIn F n Try.prog ops Q (o :: rest) a w := by
  obtain ⟨i0, hi, hz0, hz1, hz2⟩ := info_parts Try.info30
  obtain ⟨v', w', hr, h2, h3, _, h5⟩ := run_append_own_at (P := Try.prog) w base 22 o.type 30 i0 (.agg #[.int .i64 0, .int .i64 0, .int .i64 0]) 3 24 Try.underlying22 hi hz0 hz1 hz2 rfl (by decide) v l.length _ hown ⟨ad, 0, none⟩ 1 c [.int .i64 p, .int .i64 q, .int .i64 r] rfl (World.news_of_block (cs := #[.int .i64 p, .int .i64 q, .int .i64 r]) (t := 30) (fr := (0, 0)) hb) (by simp [Value.oneCell']) (by unfold maxLen; omega) (by omega) hbase
  refine wpListIn_plain hgd fun K hK => ?_
  have hK := hK _ _ (h v' w' (OwnT.add h2) h3 h5)
  unfold Oper.wpIn
  refine ⟨(fun f hf => by rw [hab] at hf; cases hf), ?_⟩
  have hsem : o.semAt F.round a.eval = execOp a.eval o := by
    cases hR : F.round with
    | none => rw [Oper.semAt_none]
    | some r => rw [Oper.semAt_some r a.eval o (noDeferE_ne (by unfold noDeferE; rw [ho]))]
  rw [hsem]
  unfold execOp
  simp only [ho, resolve, invoke, builtin, Sem.run_bind, Sem.run_pure, Result.andThen_ok, List.map_toArray, List.map_cons, List.map_nil, hs, hx, hr]
  exact hK

set_option maxRecDepth 100000 in
set_option maxHeartbeats 4000000 in
theorem Jumps_ok (A : Option Addr) (c n p : Nat) (l : List Tri) (w : World) (hr : RTri w w.heap.size A l) (hc : checkT n l = 0) (hp : p < 2 ^ n) :
    Calls Try.prog 19 #[.int .i64 n, .slice A l.length c, .int .i64 p] w fun e w' => ∃ v, e = .returned (.tuple #[v, .int .i64 0]) ∧ OwnT 30 w' w.heap.size v ((jumpsL l).filter fun j => canJ j p) ∧ Below w.heap.size w w' := by
  obtain ⟨hn1, hn16, hl, hg⟩ := checkT_zero hc
  have hn : n ≤ 16 := by omega
  refine (callsIn_wide (n := 6)).1 ?_
  have HC := Lib.hid (check_1 A n l p c w hr (by omega))
  have HZ := Lib.hid (show checkPs n l [(p : Int)] = 0 from checkPs_ok (xs := [p]) hc (by simpa using hp))
  have HR := Lib.hid hr
  have HOK := Lib.hid (jumpsL_ok (goodT_ok hg))
  have HJL := Lib.hid (jumpsL_len l)
  have HP16 := Lib.hid (show p < 65536 from Nat.lt_of_lt_of_le hp (Nat.pow_le_pow_right (n := 2) (by decide) hn))
  clear hr hc hg hp
  refine callsIn_of_wp_marks Try.func19 rfl trivial ?_ rfl
  simp only [Try.ntmps19, List.size_toArray, List.length_cons, List.length_nil, Nat.reduceAdd, Nat.reduceSub, Array.replicate_succ, Array.replicate_zero, List.push_toArray, List.append_toArray, List.nil_append, List.cons_append]
  gi_wp2
  refine ⟨trivial, (callsIn_wide.2 HC.out).mono ?_⟩
  rintro e w1 ⟨rfl, hb⟩
  rw [HZ.out]
  have HB := Lib.hid hb
  clear hb HC
  gi_wp2
  have hbf := Box.new w1 22 #[Value.slice none 0 0]
  have hB2 := HB.out.alloc HB.out.size (Obj.cells #[Value.slice none 0 0] 22)
  have hR2 := HR.out.up hB2
  obtain ⟨W2, hW2⟩ : ∃ W2, w1.alloc (Obj.cells #[Value.slice none 0 0] 22) = W2 := ⟨_, rfl⟩
  rw [hW2] at hbf hB2 hR2 ⊢
  clear hW2
  refine ⟨trivial, (callsIn_wide.2 (jumpsOf_any A c l W2 hR2 hl)).mono ?_⟩
  rintro e w3 ⟨A2, c2, rfl, hrt, hab, hb3⟩
  have HRT := Lib.hid hrt
  have HAB := Lib.hid hab
  have HBF := Lib.hid hbf
  have HB2 := Lib.hid hB2
  have HB3 := Lib.hid hb3
  have HS2 := Lib.hid hB2.size
  have hfl := hbf.lt
  have HFL := Lib.hid hfl
  clear hrt hab hbf hB2 hR2 hb3 hfl
  gi_wp2
  refine ⟨trivial, (callsIn_wide.2 (possible_any A2 (jumpsL l).length c2 p w3)).mono ?_⟩
  rintro e w4 ⟨rfl, rfl⟩
  have hba4 := (Box.new w3 102 #[Value.slice A2 (jumpsL l).length c2]).alloc (Obj.cells #[Value.int IntKind.i64 (p : Nat)] 3)
  have hbp4 := Box.new (w3.alloc (Obj.cells #[Value.slice A2 (jumpsL l).length c2] 102)) 3 #[Value.int IntKind.i64 (p : Nat)]
  rw [show (w3.alloc (Obj.cells #[Value.slice A2 (jumpsL l).length c2] 102)).heap.size = w3.heap.size + 1 by simp] at hbp4
  have hbe4 : Below w3.heap.size w3 ((w3.alloc (Obj.cells #[Value.slice A2 (jumpsL l).length c2] 102)).alloc (Obj.cells #[Value.int IntKind.i64 (p : Nat)] 3)) := ((Below.refl _ w3).alloc (Nat.le_refl _) _).alloc (by simp) _
  have hsz4 : ((w3.alloc (Obj.cells #[Value.slice A2 (jumpsL l).length c2] 102)).alloc (Obj.cells #[Value.int IntKind.i64 (p : Nat)] 3)).heap.size = w3.heap.size + 2 := by simp
  obtain ⟨W4, hW4⟩ : ∃ W4, (w3.alloc (Obj.cells #[Value.slice A2 (jumpsL l).length c2] 102)).alloc (Obj.cells #[Value.int IntKind.i64 (p : Nat)] 3) = W4 := ⟨_, rfl⟩
  rw [hW4] at hba4 hbp4 hbe4 hsz4 ⊢
  clear hW4
  have hs23 := HB3.out.size
  have HBA4 := Lib.hid hba4
  have HBP4 := Lib.hid hbp4
  have HBE4 := Lib.hid hbe4
  have HSZ4 := Lib.hid hsz4
  have HRT4 := Lib.hid (HRT.out.up hbe4)
  have HB24 := Lib.hid (HB3.out.trans (hbe4.mono hs23))
  have HBW4 := Lib.hid (HB2.out.trans (HB24.out.mono HS2.out))
  have HS23 := Lib.hid hs23
  have HBF4 := Lib.hid (HBF.out.below HB24.out HFL.out)
  clear hba4 hbp4 hbe4 hsz4 hs23
  gi_wp2
  have hmo : Try.prog.follows .mixedOrders = true := by kernel_rfl
  refine rangeT (m := 2) (gf := 98) (lb := #[.pointer (some ⟨w3.heap.size, 0, none⟩), .pointer (some ⟨w3.heap.size + 1, 0, none⟩)]) (E := IsJump) (fun x v W h => by rw [h]; rfl) rfl (enters_of Try.func98 (by kernel_rfl) rfl)
      (D := fun b => (∃ o, A2 = some ⟨b, o, none⟩) ∨ b = w3.heap.size + 1 ∨ b = w3.heap.size) (all := (jumpsL l).filter fun j => canJ j p) (fun b hb => ?hD) ?hseq
      (fun O' pre W' => ∃ v, Hid (Box W' w1.heap.size 22 #[v]) ∧ Hid (OwnT 30 W' w3.heap.size v pre) ∧ Hid (∀ g, v.ownBlock = some g → ¬ O' g ∧ w3.heap.size + 2 ≤ g) ∧ Hid (Below w.heap.size w W') ∧ Hid (∀ b, O' b → W4.heap.size ≤ b) ∧ Hid (W4.heap.size ≤ W'.heap.size))
      (fun _ _ _ => False)
      ?hI0 ?hIe ?hI ?hIx ?hround ?hdone ?hstop
  case hD =>
    have := HSZ4.out
    rcases hb with ⟨o, h⟩ | h | h
    · have := HAB.out b o h; omega
    · omega
    · omega
  case hseq =>
    intro W6 hb6
    have hs := HSZ4.out
    exact possible_seq w3.heap.size (w3.heap.size + 1) 0 n p c2 A2 (jumpsL l) _ W6 hn HP16.out HOK.out (by rw [HJL.out]; omega) (HBA4.out.below hb6 (by omega)) (HBP4.out.below hb6 (by omega)) ((HRT4.out.below hb6).more hb6.size) (fun b o e => .inl ⟨o, e⟩) (.inr (.inr rfl)) (.inr (.inl rfl))
  case hI0 => exact ⟨_, HBF4, Lib.hid (OwnT.nil_ _ _ _), Lib.hid (fun g e => by cases e), HBW4, Lib.hid (fun _ h => h.elim), Lib.hid (Nat.le_refl _)⟩
  case hIe =>
    rintro O O' pre W ⟨v, i1, i2, i3, i4, i5, i6⟩ hx
    have h1 := i1.out.lt
    refine ⟨v, i1, i2, Lib.hid fun g e => ⟨fun ho => ?_, (i3.out g e).2⟩, i4, Lib.hid (fun b hb => ?_), i6⟩
    · rcases hx g ho with h | h
      · exact (i3.out g e).1 h
      · have := (i2.out.blk g e).2.1; omega
    · rcases hx b hb with h | h
      · exact i5.out b h
      · exact Nat.le_trans i6.out h
  case hI =>
    rintro O pre W W' ⟨v, i1, i2, i3, i4, i5, i6⟩ hT
    have hs4 := HSZ4.out
    have hs3 := HS23.out
    have hfl := HFL.out
    refine ⟨v, Lib.hid (i1.out.turn hT fun h => ?_), Lib.hid (i2.out.turn hT fun g e ho => (i3.out g e).1 ho), i3, Lib.hid (i4.out.trans (hT.toBelow i4.out.size fun b h ho => ?_)), i5, Lib.hid (Nat.le_trans i6.out hT.size)⟩
    · have := i5.out _ h; omega
    · have := i5.out _ ho; have := HB.out.size; omega
  case hIx => exact fun _ _ _ _ h _ => h
  case hstop => exact fun _ _ _ _ h => h.elim
  case hround =>
    rintro l2 O pre ⟨x, y, z⟩ v W ⟨vv, i1, i2, i3, i4, i5, i6⟩ hE hpre hl1 hl2 hOge ⟨r, hlr⟩
    have hE : v = #[.agg #[.int .i64 x, .int .i64 y, .int .i64 z]] := hE
    subst hE
    have I1 := i1
    have I2 := i2
    have I3 := i3
    have I4 := i4
    have I5 := i5
    have I6 := i6
    have HLN := Lib.hid (show pre.length ≤ 1000000 by
      have h1 := hpre.length_le
      have h2 := List.length_filter_le (fun j => canJ j p) (jumpsL l)
      have h3 := HJL.out
      simp only [List.length_append, List.length_cons, List.length_nil] at h1
      omega)
    have HNO := Lib.hid (show ∀ g, vv.ownBlock = some g → g ≠ l2 from fun g e h => (i3.out g e).1 (h ▸ hl1))
    have HLO := Lib.hid (hOge l2 hl1)
    clear i1 i2 i3 i4 i5 i6 hE hpre
    gi_wp2
    refine ⟨(Turn.refl _ _).alloc _, ?_⟩
    rintro W7 hT7 -
    have hlw : l2 < W.heap.size := (Array.getElem?_eq_some_iff.1 hlr).1
    have hbj := (Box.new W 105 #[Value.int .i64 x, Value.int .i64 y, Value.int .i64 z]).turn hT7 (by omega)
    have hTW : Turn (fun b => b = l2) W W7 := ((Turn.refl (fun b => b = l2) W).alloc _).trans hT7 (fun _ _ h => h)
    have j1 := I1.out.turn hTW (fun h => by have := I5.out l2 hl1; have := HSZ4.out; have := HS23.out; have := HFL.out; omega)
    have j2 := I2.out.turn hTW (fun g e => HNO.out g e)
    have j4 := I4.out.trans (hTW.toBelow I4.out.size fun b h ho => by have := I5.out l2 hl1; have := HSZ4.out; have := HS23.out; have := HFL.out; have := HB.out.size; omega)
    have hs7 := hTW.size
    have hb3 : w3.heap.size ≤ W7.heap.size := by have := hs7; have := (HLO.out).1; have := HLO.out.2; have := HSZ4.out; omega
    have hb1 : w1.heap.size < w3.heap.size := by have := HFL.out; have := HS23.out; omega
    have hbl := hbj.lt
    have hbn : W.heap.size ≠ w1.heap.size := by have := I6.out; have := HSZ4.out; omega
    have HNUM := Lib.hid (And.intro hs7 (And.intro hb3 hb1))
    have HOL := Lib.hid (show ∀ b, O b → b < W.heap.size from fun b h => (hOge b h).2)
    have HND := Lib.hid (show ∀ b, ((∃ o, A2 = some ⟨b, o, none⟩) ∨ b = w3.heap.size + 1 ∨ b = w3.heap.size) → b < w3.heap.size + 2 ∧ w1.heap.size < b from fun b h => by
      have h1 := HFL.out
      have h2 := HS23.out
      rcases h with ⟨o, h⟩ | h | h
      · have := HAB.out b o h; omega
      · omega
      · omega)
    have J1 := Lib.hid j1
    have J2 := Lib.hid j2
    have J4 := Lib.hid j4
    have JB := Lib.hid hbj
    have J3 := I3
    have HVN := Lib.hid (show ∀ g, vv.ownBlock = some g → g < W.heap.size from fun g e => (I2.out.blk g e).2.1)
    have x0 := hbj.cell 0
    have x1 := hbj.cell 1
    have x2 := hbj.cell 2
    have c7 := j1.cell 0
    simp only [List.getElem?_toArray, List.getElem?_cons_zero, List.getElem?_cons_succ] at x0 x1 x2 c7
    have hform : vv = .slice none 0 0 ∨ ∃ g k, vv = .slice (some ⟨g, 0, none⟩) pre.length k := by
      rcases j2.2 with ⟨h, _⟩ | ⟨g, cap, cur, h, _⟩
      · exact .inl h
      · exact .inr ⟨g, cap, h⟩
    clear j1 j2 j4 hbj hTW hT7 I1 I2 I3 I4 hs7 hb3 hb1 hl1 hl2 hOge hlr hlw
    have hgoal : ∀ (w8 : World) (v9 : Value) (w10 : World), Below W7.heap.size W7 w8 → OwnT 30 w10 w3.heap.size v9 (pre ++ [(x, y, z)]) → (w8.alloc (Obj.cells #[Value.int IntKind.i64 x, Value.int IntKind.i64 y, Value.int IntKind.i64 z] 30)).grownBy w10 vv.ownBlock → (v9.ownBlock = vv.ownBlock ∨ v9.ownBlock = some (w8.heap.size + 1)) → (∃ v, Hid (Box (w10.setCell ⟨w1.heap.size, 0, none⟩ v9) w1.heap.size 22 #[v]) ∧ Hid (OwnT 30 (w10.setCell ⟨w1.heap.size, 0, none⟩ v9) w3.heap.size v (pre ++ [(x, y, z)])) ∧ Hid (∀ g, v.ownBlock = some g → ¬ O g ∧ w3.heap.size + 2 ≤ g) ∧ Hid (Below w.heap.size w (w10.setCell ⟨w1.heap.size, 0, none⟩ v9)) ∧ Hid (∀ b, O b → W4.heap.size ≤ b) ∧ Hid (W4.heap.size ≤ (w10.setCell ⟨w1.heap.size, 0, none⟩ v9).heap.size)) ∧ Turn (fun b => ¬ (((∃ o, A2 = some ⟨b, o, none⟩) ∨ b = w3.heap.size + 1 ∨ b = w3.heap.size) ∨ O b)) W7 (w10.setCell ⟨w1.heap.size, 0, none⟩ v9) := by
      intro w8 v9 w10 hb8 hown9 hg9 hor9
      have hT8 := (Turn.refl (fun _ => False) W7).below hb8 (Nat.le_refl _)
      have k1 := J1.out.turn hT8 fun h => h
      have k4 := J4.out.trans (hT8.toBelow J4.out.size fun _ _ h => h)
      have hsa : (w8.alloc (Obj.cells #[Value.int IntKind.i64 x, Value.int IntKind.i64 y, Value.int IntKind.i64 z] 30)).heap.size = w8.heap.size + 1 := by simp
      have hs10 := hg9.size
      rw [hsa] at hs10
      obtain ⟨n1, n2, n3⟩ := HNUM.out
      have hn8 := hb8.size
      have hn6 := I6.out
      have hn4 := HSZ4.out
      have hne : ∀ g, v9.ownBlock = some g → ¬ O g ∧ w3.heap.size + 2 ≤ g := fun g e => by
        rcases hor9 with h | h
        · exact J3.out g (h.symm.trans e)
        · rw [h] at e
          have e := Option.some.inj e
          exact ⟨fun ho => by have := HOL.out g ho; omega, by omega⟩
      have hbx := ((k1.alloc (Obj.cells #[Value.int IntKind.i64 x, Value.int IntKind.i64 y, Value.int IntKind.i64 z] 30)).grown hg9 (fun e => by have := (J3.out _ e.symm).2; omega)).put 0 v9
      refine ⟨⟨v9, Lib.hid hbx, Lib.hid ?_, Lib.hid hne, Lib.hid ?_, I5, Lib.hid (by simp; omega)⟩, ?_⟩
      · exact hown9.turn ((Turn.refl (fun b => b = w1.heap.size) w10).setCell (p := ⟨w1.heap.size, 0, none⟩) (.inl rfl) v9) (fun g e h => by have := (hne g e).2; omega)
      · refine Below.setCell (p := ⟨w1.heap.size, 0, none⟩) ?_ HB.out.size v9
        refine (k4.alloc k4.size _).grown hg9 (by rw [hsa]; have := k4.size; omega) (fun k hk => ?_)
        have := (J3.out k hk).2
        have := HB.out.size
        omega
      · have hT1 : Turn (fun b => ¬ (((∃ o, A2 = some ⟨b, o, none⟩) ∨ b = w3.heap.size + 1 ∨ b = w3.heap.size) ∨ O b)) W7 w10 := ((hT8.imp (fun _ _ h => h.elim)).alloc _).grown hg9 (fun k hk => .inl fun h => by
          rcases h with h | h
          · have e1 := (HND.out k h).1
            have e2 := (J3.out k hk).2
            omega
          · exact (J3.out k hk).1 h)
        refine hT1.setCell (p := ⟨w1.heap.size, 0, none⟩) (.inl fun h => ?_) v9
        rcases h with h | h
        · have e1 := (HND.out w1.heap.size h).2
          omega
        · have e1 := I5.out w1.heap.size h
          have e2 := (HND.out w3.heap.size (.inr (.inr rfl))).2
          omega
    have HGO := Lib.hid hgoal
    clear hgoal
    obtain ⟨i0, hi, hz0, hz1, hz2⟩ := info_parts Try.info30
    gi_wp2
    refine held_round (S := fun w' => w'.cell? ⟨W.heap.size, 0, none⟩ = some (.int .i64 x) ∧ w'.cell? ⟨W.heap.size, 1, none⟩ = some (.int .i64 y) ∧ w'.cell? ⟨W.heap.size, 2, none⟩ = some (.int .i64 z)) hmo (by kernel_rfl) (fun h => by obtain ⟨_, _, h⟩ := h; exact h) ⟨x0, x1, x2⟩ (fun hHeld => ?_)
    refine wpAnyH_take (i := 1) (v := ?_) rfl (by kernel_rfl) (by kernel_rfl) (by kernel_rfl) (fun _ _ _ h => h) (Or.inl ⟨by rfl, ?_⟩) (by assumption) ?_
    rotate_left
    · (intro w hSw; (try dsimp only at hSw); go_simp <;> (with_reducible rfl))
    try simp only [Act.put, List.setIfInBounds_toArray, List.set_cons_zero, List.set_cons_succ, List.getElem_toArray, List.getElem_cons_zero, List.getElem_cons_succ]
    refine wpAnyH_ready (rs := [0, 2]) (by kernel_rfl) (by simp) ?_
    refine AllReadyH.cons rfl (fun K hK => ?_) (AllReadyH.cons rfl (fun K hK => ?_) AllReadyH.nil)
    · go_simp
      refine hK.out _ _ ⟨x0, x1, x2⟩ (fun hHeld => ?_)
      clear hK K
      try simp only [Act.put, List.setIfInBounds_toArray, List.set_cons_zero, List.set_cons_succ, List.getElem_toArray, List.getElem_cons_zero, List.getElem_cons_succ]
      refine wpAnyH_ready (rs := [2]) (by kernel_rfl) (by simp) ?_
      refine AllReadyH.cons rfl (fun K hK => ?_) AllReadyH.nil
      go_simp
      go_at_call 60
      refine (list_any x y z _).mono ?_
      rintro e w8 ⟨rfl, hb8⟩
      have hb8 : Below W7.heap.size W7 w8 := (below_drewN (Below.refl _ W7) 1).trans hb8
      have HB8 := Lib.hid hb8
      have HS8 := Lib.hid (show w8.cell? ⟨W.heap.size, 0, none⟩ = some (.int .i64 x) ∧ w8.cell? ⟨W.heap.size, 1, none⟩ = some (.int .i64 y) ∧ w8.cell? ⟨W.heap.size, 2, none⟩ = some (.int .i64 z) from ⟨(hb8.cell (p := ⟨W.heap.size, 0, none⟩) hbl).trans x0, (hb8.cell (p := ⟨W.heap.size, 1, none⟩) hbl).trans x1, (hb8.cell (p := ⟨W.heap.size, 2, none⟩) hbl).trans x2⟩)
      have K1 := Lib.hid (J1.out.below hb8 J1.out.lt)
      have K2 := Lib.hid (J2.out.below hb8 (fun g e => (J2.out.blk g e).2.1))
      have c8 := K1.out.cell 0
      have c8a := (K1.out.alloc (Obj.cells #[Value.int IntKind.i64 x, Value.int IntKind.i64 y, Value.int IntKind.i64 z] 30)).cell 0
      simp only [List.getElem?_toArray, List.getElem?_cons_zero] at c8 c8a
      clear hb8
      go_wp2_with fail
      refine hK.out _ _ HS8.out (fun hHeld => ?_)
      clear hK K
      try simp only [Act.put, List.setIfInBounds_toArray, List.set_cons_zero, List.set_cons_succ, List.getElem_toArray, List.getElem_cons_zero, List.getElem_cons_succ]
      refine wpAnyH_ready (rs := [3]) (by kernel_rfl) (by simp) ?_
      refine AllReadyH.cons rfl (fun K hK => ?_) AllReadyH.nil
      go_simp
      have HSA := Lib.hid (show (w8.alloc (Obj.cells #[Value.int IntKind.i64 x, Value.int IntKind.i64 y, Value.int IntKind.i64 z] 30)).cell? ⟨W.heap.size, 0, none⟩ = some (.int .i64 x) ∧ (w8.alloc (Obj.cells #[Value.int IntKind.i64 x, Value.int IntKind.i64 y, Value.int IntKind.i64 z] 30)).cell? ⟨W.heap.size, 1, none⟩ = some (.int .i64 y) ∧ (w8.alloc (Obj.cells #[Value.int IntKind.i64 x, Value.int IntKind.i64 y, Value.int IntKind.i64 z] 30)).cell? ⟨W.heap.size, 2, none⟩ = some (.int .i64 z) from by have hbx := (JB.out.below HB8.out JB.out.lt).alloc (Obj.cells #[Value.int IntKind.i64 x, Value.int IntKind.i64 y, Value.int IntKind.i64 z] 30); exact ⟨hbx.cell 0, hbx.cell 1, hbx.cell 2⟩)
      refine hK.out _ _ HSA.out (fun hHeld => ?_)
      clear hK K
      try simp only [Act.put, List.setIfInBounds_toArray, List.set_cons_zero, List.set_cons_succ, List.getElem_toArray, List.getElem_cons_zero, List.getElem_cons_succ]
      refine wpAnyH_ready (rs := [4]) (by kernel_rfl) (by simp) ?_
      refine AllReadyH.cons rfl (fun K hK => ?_) AllReadyH.nil
      refine step_append_lies (w8.alloc (Obj.cells #[Value.int IntKind.i64 x, Value.int IntKind.i64 y, Value.int IntKind.i64 z] 30)) rfl _ _ 22 rfl w3.heap.size 30 i0 (.agg #[.int .i64 0, .int .i64 0, .int .i64 0]) 3 24 Try.underlying22 hi hz0 hz1 hz2 rfl (by decide) vv pre.length _ rfl (K2.out.alloc _) ⟨w8.heap.size, 0, none⟩ 1 1 [.int .i64 x, .int .i64 y, .int .i64 z] rfl rfl (World.news_of_block (Box.new w8 30 #[Value.int .i64 x, Value.int .i64 y, Value.int .i64 z])) (by simp [Value.oneCell']) (by decide) (by have := HLN.out; unfold maxLen; omega) (by have := HLN.out; omega) (by have := HNUM.out; have := HB8.out.size; simp; omega) _ rfl ?_
      intro g9 k9 w9 hown9 hg9 hor9 _
      have hown9 : OwnT 30 w9 w3.heap.size (.slice (some ⟨g9, 0, none⟩) (pre.length + 1) k9) (pre ++ [(x, y, z)]) := OwnT.add hown9
      have hbx9 := ((JB.out.below HB8.out JB.out.lt).alloc (Obj.cells #[Value.int IntKind.i64 x, Value.int IntKind.i64 y, Value.int IntKind.i64 z] 30)).grown hg9 (fun e => by have := HVN.out _ e.symm; omega)
      have HS9 := Lib.hid (show w9.cell? ⟨W.heap.size, 0, none⟩ = some (.int .i64 x) ∧ w9.cell? ⟨W.heap.size, 1, none⟩ = some (.int .i64 y) ∧ w9.cell? ⟨W.heap.size, 2, none⟩ = some (.int .i64 z) from ⟨hbx9.cell 0, hbx9.cell 1, hbx9.cell 2⟩)
      have hl9 := (K1.out.alloc (Obj.cells #[Value.int IntKind.i64 x, Value.int IntKind.i64 y, Value.int IntKind.i64 z] 30)).grown hg9 (fun e => by have := (J3.out _ e.symm).2; have := HNUM.out; omega)
      have c9 := hl9.cell 0
      have f9 := hl9.free 0
      simp only [List.getElem?_toArray, List.getElem?_cons_zero] at c9
      have hbf9 := hbx9.far (p := ⟨w1.heap.size, 0, none⟩) hbn (.slice (some ⟨g9, 0, none⟩) (pre.length + 1) k9)
      have HT9 := Lib.hid (show _ ∧ _ ∧ _ from ⟨hbf9.cell 0, hbf9.cell 1, hbf9.cell 2⟩)
      have HW9 := Lib.hid (HGO.out w8 _ w9 HB8.out hown9 hg9 (hor9.elim (fun h => .inl h.symm) (fun h => .inr (by rw [h]; simp [Value.ownBlock]))))
      clear hown9 hg9 hor9 hbx9 hl9 hbf9
      refine hK.out _ _ HS9.out (fun hHeld => ?_)
      clear hK K
      try simp only [Act.put, List.setIfInBounds_toArray, List.set_cons_zero, List.set_cons_succ, List.getElem_toArray, List.getElem_cons_zero, List.getElem_cons_succ]
      refine wpAnyH_ready (rs := [5]) (by kernel_rfl) (by simp) ?_
      refine AllReadyH.cons rfl (fun K hK => ?_) AllReadyH.nil
      go_simp
      refine hK.out _ _ HT9.out (fun hHeld => ?_)
      clear hK K
      try simp only [Act.put, List.setIfInBounds_toArray, List.set_cons_zero, List.set_cons_succ, List.getElem_toArray, List.getElem_cons_zero, List.getElem_cons_succ]
      refine wpAnyH_done (by kernel_rfl) ?_ _
      exact HW9.out
    · go_simp
      go_at_call 60
      refine (list_any x y z _).mono ?_
      rintro e w8 ⟨rfl, hb8⟩
      have hb8 : Below W7.heap.size W7 w8 := (below_drewN (Below.refl _ W7) 1).trans hb8
      have HB8 := Lib.hid hb8
      have HS8 := Lib.hid (show w8.cell? ⟨W.heap.size, 0, none⟩ = some (.int .i64 x) ∧ w8.cell? ⟨W.heap.size, 1, none⟩ = some (.int .i64 y) ∧ w8.cell? ⟨W.heap.size, 2, none⟩ = some (.int .i64 z) from ⟨(hb8.cell (p := ⟨W.heap.size, 0, none⟩) hbl).trans x0, (hb8.cell (p := ⟨W.heap.size, 1, none⟩) hbl).trans x1, (hb8.cell (p := ⟨W.heap.size, 2, none⟩) hbl).trans x2⟩)
      have K1 := Lib.hid (J1.out.below hb8 J1.out.lt)
      have K2 := Lib.hid (J2.out.below hb8 (fun g e => (J2.out.blk g e).2.1))
      have c8 := K1.out.cell 0
      have c8a := (K1.out.alloc (Obj.cells #[Value.int IntKind.i64 x, Value.int IntKind.i64 y, Value.int IntKind.i64 z] 30)).cell 0
      simp only [List.getElem?_toArray, List.getElem?_cons_zero] at c8 c8a
      clear hb8
      go_wp2_with fail
      refine hK.out _ _ HS8.out (fun hHeld => ?_)
      clear hK K
      try simp only [Act.put, List.setIfInBounds_toArray, List.set_cons_zero, List.set_cons_succ, List.getElem_toArray, List.getElem_cons_zero, List.getElem_cons_succ]
      refine wpAnyH_ready (rs := [0, 3]) (by kernel_rfl) (by simp) ?_
      refine AllReadyH.cons rfl (fun K hK => ?_) (AllReadyH.cons rfl (fun K hK => ?_) AllReadyH.nil)
      · go_simp
        refine hK.out _ _ HS8.out (fun hHeld => ?_)
        clear hK K
        try simp only [Act.put, List.setIfInBounds_toArray, List.set_cons_zero, List.set_cons_succ, List.getElem_toArray, List.getElem_cons_zero, List.getElem_cons_succ]
        refine wpAnyH_ready (rs := [3]) (by kernel_rfl) (by simp) ?_
        refine AllReadyH.cons rfl (fun K hK => ?_) AllReadyH.nil
        go_simp
        have HSA := Lib.hid (show (w8.alloc (Obj.cells #[Value.int IntKind.i64 x, Value.int IntKind.i64 y, Value.int IntKind.i64 z] 30)).cell? ⟨W.heap.size, 0, none⟩ = some (.int .i64 x) ∧ (w8.alloc (Obj.cells #[Value.int IntKind.i64 x, Value.int IntKind.i64 y, Value.int IntKind.i64 z] 30)).cell? ⟨W.heap.size, 1, none⟩ = some (.int .i64 y) ∧ (w8.alloc (Obj.cells #[Value.int IntKind.i64 x, Value.int IntKind.i64 y, Value.int IntKind.i64 z] 30)).cell? ⟨W.heap.size, 2, none⟩ = some (.int .i64 z) from by have hbx := (JB.out.below HB8.out JB.out.lt).alloc (Obj.cells #[Value.int IntKind.i64 x, Value.int IntKind.i64 y, Value.int IntKind.i64 z] 30); exact ⟨hbx.cell 0, hbx.cell 1, hbx.cell 2⟩)
        refine hK.out _ _ HSA.out (fun hHeld => ?_)
        clear hK K
        try simp only [Act.put, List.setIfInBounds_toArray, List.set_cons_zero, List.set_cons_succ, List.getElem_toArray, List.getElem_cons_zero, List.getElem_cons_succ]
        refine wpAnyH_ready (rs := [4]) (by kernel_rfl) (by simp) ?_
        refine AllReadyH.cons rfl (fun K hK => ?_) AllReadyH.nil
        refine step_append_lies (w8.alloc (Obj.cells #[Value.int IntKind.i64 x, Value.int IntKind.i64 y, Value.int IntKind.i64 z] 30)) rfl _ _ 22 rfl w3.heap.size 30 i0 (.agg #[.int .i64 0, .int .i64 0, .int .i64 0]) 3 24 Try.underlying22 hi hz0 hz1 hz2 rfl (by decide) vv pre.length _ rfl (K2.out.alloc _) ⟨w8.heap.size, 0, none⟩ 1 1 [.int .i64 x, .int .i64 y, .int .i64 z] rfl rfl (World.news_of_block (Box.new w8 30 #[Value.int .i64 x, Value.int .i64 y, Value.int .i64 z])) (by simp [Value.oneCell']) (by decide) (by have := HLN.out; unfold maxLen; omega) (by have := HLN.out; omega) (by have := HNUM.out; have := HB8.out.size; simp; omega) _ rfl ?_
        intro g9 k9 w9 hown9 hg9 hor9 _
        have hown9 : OwnT 30 w9 w3.heap.size (.slice (some ⟨g9, 0, none⟩) (pre.length + 1) k9) (pre ++ [(x, y, z)]) := OwnT.add hown9
        have hbx9 := ((JB.out.below HB8.out JB.out.lt).alloc (Obj.cells #[Value.int IntKind.i64 x, Value.int IntKind.i64 y, Value.int IntKind.i64 z] 30)).grown hg9 (fun e => by have := HVN.out _ e.symm; omega)
        have HS9 := Lib.hid (show w9.cell? ⟨W.heap.size, 0, none⟩ = some (.int .i64 x) ∧ w9.cell? ⟨W.heap.size, 1, none⟩ = some (.int .i64 y) ∧ w9.cell? ⟨W.heap.size, 2, none⟩ = some (.int .i64 z) from ⟨hbx9.cell 0, hbx9.cell 1, hbx9.cell 2⟩)
        have hl9 := (K1.out.alloc (Obj.cells #[Value.int IntKind.i64 x, Value.int IntKind.i64 y, Value.int IntKind.i64 z] 30)).grown hg9 (fun e => by have := (J3.out _ e.symm).2; have := HNUM.out; omega)
        have c9 := hl9.cell 0
        have f9 := hl9.free 0
        simp only [List.getElem?_toArray, List.getElem?_cons_zero] at c9
        have hbf9 := hbx9.far (p := ⟨w1.heap.size, 0, none⟩) hbn (.slice (some ⟨g9, 0, none⟩) (pre.length + 1) k9)
        have HT9 := Lib.hid (show _ ∧ _ ∧ _ from ⟨hbf9.cell 0, hbf9.cell 1, hbf9.cell 2⟩)
        have HW9 := Lib.hid (HGO.out w8 _ w9 HB8.out hown9 hg9 (hor9.elim (fun h => .inl h.symm) (fun h => .inr (by rw [h]; simp [Value.ownBlock]))))
        clear hown9 hg9 hor9 hbx9 hl9 hbf9
        refine hK.out _ _ HS9.out (fun hHeld => ?_)
        clear hK K
        try simp only [Act.put, List.setIfInBounds_toArray, List.set_cons_zero, List.set_cons_succ, List.getElem_toArray, List.getElem_cons_zero, List.getElem_cons_succ]
        refine wpAnyH_ready (rs := [5]) (by kernel_rfl) (by simp) ?_
        refine AllReadyH.cons rfl (fun K hK => ?_) AllReadyH.nil
        go_simp
        refine hK.out _ _ HT9.out (fun hHeld => ?_)
        clear hK K
        try simp only [Act.put, List.setIfInBounds_toArray, List.set_cons_zero, List.set_cons_succ, List.getElem_toArray, List.getElem_cons_zero, List.getElem_cons_succ]
        refine wpAnyH_done (by kernel_rfl) ?_ _
        exact HW9.out
      · go_simp
        have HSA := Lib.hid (show (w8.alloc (Obj.cells #[Value.int IntKind.i64 x, Value.int IntKind.i64 y, Value.int IntKind.i64 z] 30)).cell? ⟨W.heap.size, 0, none⟩ = some (.int .i64 x) ∧ (w8.alloc (Obj.cells #[Value.int IntKind.i64 x, Value.int IntKind.i64 y, Value.int IntKind.i64 z] 30)).cell? ⟨W.heap.size, 1, none⟩ = some (.int .i64 y) ∧ (w8.alloc (Obj.cells #[Value.int IntKind.i64 x, Value.int IntKind.i64 y, Value.int IntKind.i64 z] 30)).cell? ⟨W.heap.size, 2, none⟩ = some (.int .i64 z) from by have hbx := (JB.out.below HB8.out JB.out.lt).alloc (Obj.cells #[Value.int IntKind.i64 x, Value.int IntKind.i64 y, Value.int IntKind.i64 z] 30); exact ⟨hbx.cell 0, hbx.cell 1, hbx.cell 2⟩)
        refine hK.out _ _ HSA.out (fun hHeld => ?_)
        clear hK K
        try simp only [Act.put, List.setIfInBounds_toArray, List.set_cons_zero, List.set_cons_succ, List.getElem_toArray, List.getElem_cons_zero, List.getElem_cons_succ]
        refine wpAnyH_ready (rs := [0]) (by kernel_rfl) (by simp) ?_
        refine AllReadyH.cons rfl (fun K hK => ?_) AllReadyH.nil
        go_simp
        refine hK.out _ _ HSA.out (fun hHeld => ?_)
        clear hK K
        try simp only [Act.put, List.setIfInBounds_toArray, List.set_cons_zero, List.set_cons_succ, List.getElem_toArray, List.getElem_cons_zero, List.getElem_cons_succ]
        refine wpAnyH_ready (rs := [4]) (by kernel_rfl) (by simp) ?_
        refine AllReadyH.cons rfl (fun K hK => ?_) AllReadyH.nil
        refine step_append_lies (w8.alloc (Obj.cells #[Value.int IntKind.i64 x, Value.int IntKind.i64 y, Value.int IntKind.i64 z] 30)) rfl _ _ 22 rfl w3.heap.size 30 i0 (.agg #[.int .i64 0, .int .i64 0, .int .i64 0]) 3 24 Try.underlying22 hi hz0 hz1 hz2 rfl (by decide) vv pre.length _ rfl (K2.out.alloc _) ⟨w8.heap.size, 0, none⟩ 1 1 [.int .i64 x, .int .i64 y, .int .i64 z] rfl rfl (World.news_of_block (Box.new w8 30 #[Value.int .i64 x, Value.int .i64 y, Value.int .i64 z])) (by simp [Value.oneCell']) (by decide) (by have := HLN.out; unfold maxLen; omega) (by have := HLN.out; omega) (by have := HNUM.out; have := HB8.out.size; simp; omega) _ rfl ?_
        intro g9 k9 w9 hown9 hg9 hor9 _
        have hown9 : OwnT 30 w9 w3.heap.size (.slice (some ⟨g9, 0, none⟩) (pre.length + 1) k9) (pre ++ [(x, y, z)]) := OwnT.add hown9
        have hbx9 := ((JB.out.below HB8.out JB.out.lt).alloc (Obj.cells #[Value.int IntKind.i64 x, Value.int IntKind.i64 y, Value.int IntKind.i64 z] 30)).grown hg9 (fun e => by have := HVN.out _ e.symm; omega)
        have HS9 := Lib.hid (show w9.cell? ⟨W.heap.size, 0, none⟩ = some (.int .i64 x) ∧ w9.cell? ⟨W.heap.size, 1, none⟩ = some (.int .i64 y) ∧ w9.cell? ⟨W.heap.size, 2, none⟩ = some (.int .i64 z) from ⟨hbx9.cell 0, hbx9.cell 1, hbx9.cell 2⟩)
        have hl9 := (K1.out.alloc (Obj.cells #[Value.int IntKind.i64 x, Value.int IntKind.i64 y, Value.int IntKind.i64 z] 30)).grown hg9 (fun e => by have := (J3.out _ e.symm).2; have := HNUM.out; omega)
        have c9 := hl9.cell 0
        have f9 := hl9.free 0
        simp only [List.getElem?_toArray, List.getElem?_cons_zero] at c9
        have hbf9 := hbx9.far (p := ⟨w1.heap.size, 0, none⟩) hbn (.slice (some ⟨g9, 0, none⟩) (pre.length + 1) k9)
        have HT9 := Lib.hid (show _ ∧ _ ∧ _ from ⟨hbf9.cell 0, hbf9.cell 1, hbf9.cell 2⟩)
        have HW9 := Lib.hid (HGO.out w8 _ w9 HB8.out hown9 hg9 (hor9.elim (fun h => .inl h.symm) (fun h => .inr (by rw [h]; simp [Value.ownBlock]))))
        clear hown9 hg9 hor9 hbx9 hl9 hbf9
        refine hK.out _ _ HS9.out (fun hHeld => ?_)
        clear hK K
        try simp only [Act.put, List.setIfInBounds_toArray, List.set_cons_zero, List.set_cons_succ, List.getElem_toArray, List.getElem_cons_zero, List.getElem_cons_succ]
        refine wpAnyH_ready (rs := [5]) (by kernel_rfl) (by simp) ?_
        refine AllReadyH.cons rfl (fun K hK => ?_) AllReadyH.nil
        go_simp
        refine hK.out _ _ HT9.out (fun hHeld => ?_)
        clear hK K
        try simp only [Act.put, List.setIfInBounds_toArray, List.set_cons_zero, List.set_cons_succ, List.getElem_toArray, List.getElem_cons_zero, List.getElem_cons_succ]
        refine wpAnyH_done (by kernel_rfl) ?_ _
        exact HW9.out
  case hdone =>
    rintro O W hO ⟨v, i1, i2, i3, i4, i5, i6⟩ hK
    have c1 := i1.out.cell 0
    simp only [List.getElem?_toArray, List.getElem?_cons_zero] at c1
    have HNV := Lib.hid (show ∀ g, v.ownBlock = some g → g ≠ w1.heap.size ∧ g ≠ W4.heap.size ∧ w.heap.size ≤ g from fun g e => by
      obtain ⟨h1, h2⟩ := i3.out g e
      have h3 := HFL.out
      have h4 := HS23.out
      have h5 := HB.out.size
      exact ⟨by omega, fun h => h1 (h ▸ hO), by omega⟩)
    have HO2 := i2
    have HBW := i4
    have HK := Lib.hid hK
    clear i1 i2 i3 i4 i5 i6 hK hO
    gi_wp2
    refine ⟨by simp, .inl ⟨_, _, rfl, run_takeDeferred HK.out, .tuple #[v, .int .i64 0], by simp [results, Try.results19, go_sem], v, rfl, ?_, HBW.out.trans (Turn.toBelow (X := fun b => b = W4.heap.size) (Turn.putO (X := fun b => b = W4.heap.size) (Turn.refl _ W) (.inl rfl) _) HBW.out.size (by have := HBW4.out.size; omega))⟩⟩
    exact (HO2.out.turn (Turn.putO (X := fun b => b = W4.heap.size) (Turn.refl _ W) (.inl rfl) _) (fun g e => (HNV.out g e).2.1)).more (by have h1 := HS23.out; have h2 := HS2.out; exact Nat.le_trans h2 h1)
end Go.Proofs.Ythbhengcinkepaa
