/- The function Orders of package dice, at dice that have no number in common: how often each order comes up. -/
import Derived.Test.YtkkholagmjcgiaaOrd2
import Derived.Test.YtkkholagmjcgiaaCommon
namespace Go.Proofs.Ytkkholagmjcgiaa
open Go.RowKit Go.Shelf

/-- How often each of some orders comes up. -/
def numsL (ds : List (List Int)) (os : List (List Int)) : List Int := os.map fun o => (((rollL ds []).countP fun r => risesL r o : Nat) : Int)

def I64Row (w : World) (base : Nat) (v : Value) (zs : List Int) : Prop := w.ownsRow base 2 1 v zs.length (zs.map (Value.int .i64))
theorem I64Row.nil_ (w : World) (b : Nat) : I64Row w b (.slice none 0 0) [] := ⟨by simp, .inl ⟨rfl, rfl⟩⟩
theorem I64Row.same {w w' : World} {base : Nat} {v : Value} {zs : List Int} (h : I64Row w base v zs) (hs : ∀ g, v.ownBlock = some g → w'.heap[g]? = w.heap[g]?) : I64Row w' base v zs := by
  rcases h.2 with ⟨e1, hn⟩ | ⟨g, cap, cur, e1, hb, hh, h1, h2, h3, h4⟩
  · exact ⟨h.1, .inl ⟨e1, hn⟩⟩
  · exact ⟨h.1, .inr ⟨g, cap, cur, e1, hb, (hs g (by rw [e1]; rfl)).trans hh, h1, h2, h3, h4⟩⟩
theorem I64Row.lower {w : World} {base base' : Nat} {v : Value} {zs : List Int} (h : I64Row w base v zs) (hb : base' ≤ base) : I64Row w base' v zs := by
  rcases h.2 with ⟨e1, hn⟩ | ⟨g, cap, cur, e1, hb2, hh⟩
  · exact ⟨h.1, .inl ⟨e1, hn⟩⟩
  · exact ⟨h.1, .inr ⟨g, cap, cur, e1, by omega, hh⟩⟩
theorem I64Row.base {w : World} {base : Nat} {v : Value} {zs : List Int} (h : I64Row w base v zs) : ∀ g, v.ownBlock = some g → base ≤ g ∧ g < w.heap.size ∧ ∃ cur, Box w g 2 cur := by
  intro g hg
  rcases h.2 with ⟨rfl, _⟩ | ⟨g', cap, cur, rfl, hb, hh, _⟩
  · cases hg
  · have : g' = g := by simpa [Value.ownBlock] using hg
    subst this
    exact ⟨hb, Box.lt hh, cur, hh⟩
theorem I64Row.turn {X : Nat → Prop} {w w' : World} {base : Nat} {v : Value} {zs : List Int} (h : I64Row w base v zs) (hT : Turn X w w') (hX : ∀ g, v.ownBlock = some g → ¬ X g) : I64Row w' base v zs :=
  h.same fun g hg => hT.2 g (h.base g hg).2.1 (hX g hg)

theorem rollL_mem : ∀ (ds : List (List Int)) (p x : List Int), x ∈ rollL ds p → ∀ y ∈ x, y ∈ p ∨ ∃ d ∈ ds, y ∈ d
  | [], p, x, h, y, hy => by
    simp [rollL] at h
    subst h
    exact .inl hy
  | d :: ds, p, x, h, y, hy => by
    simp only [rollL, List.mem_flatMap] at h
    obtain ⟨s, hs, h2⟩ := h
    rcases rollL_mem ds (p ++ [s]) x h2 y hy with h3 | ⟨d2, h3, h4⟩
    · rw [List.mem_append] at h3
      rcases h3 with h3 | h3
      · exact .inl h3
      · simp at h3
        subst h3
        exact .inr ⟨d, by simp, hs⟩
    · exact .inr ⟨d2, by simp [h3], h4⟩
theorem ordersL_spec {n : Nat} {x : List Int} (h : x ∈ ordersL n) : x.length = n ∧ Inds x n := by
  have h1 := (List.mem_filter.1 h).1
  refine ⟨by have := rollL_len _ _ _ h1; simpa using this, fun y hy => ?_⟩
  rcases rollL_mem _ _ _ h1 y hy with h2 | ⟨d, h2, h3⟩
  · cases h2
  · have := List.eq_of_mem_replicate h2
    subst this
    exact mem_evK.1 h3
theorem Now.rints {v : Value} {x : List Int} {W : World} (h : Now v x W) : ∃ a c, v = .slice a x.length c ∧ x.length ≤ c ∧ RInts W W.heap.size a x := h
def cntL (l : List (List Int)) (o : List Int) : Nat := l.countP fun r => risesL r o
theorem cntL_snoc (l : List (List Int)) (x o : List Int) : cntL (l ++ [x]) o = cntL l o + if risesL x o then 1 else 0 := by
  simp [cntL, List.countP_append, List.countP_cons]
theorem numsL_snoc (ds pre : List (List Int)) (x : List Int) : numsL ds (pre ++ [x]) = numsL ds pre ++ [((cntL (rollL ds []) x : Nat) : Int)] := by simp [numsL, cntL]
theorem rollL_small {ds : List (List Int)} (h : ∀ d ∈ ds, d.length ≤ 8) (hl : ds.length ≤ 6) : (rollL ds []).length ≤ 262144 := by
  rw [rollL_length]
  have h1 : ∀ ds : List (List Int), (∀ d ∈ ds, d.length ≤ 8) → (ds.map List.length).foldr (· * ·) 1 ≤ 8 ^ ds.length := by
    intro ds
    induction ds with
    | nil => intro _; simp
    | cons d ds ih =>
      intro h
      have h2 := ih (fun x hx => h x (by simp [hx]))
      have h3 := h d (by simp)
      simp only [List.map_cons, List.foldr_cons, List.length_cons, Nat.pow_succ]
      rw [Nat.mul_comm (8 ^ _)]
      exact Nat.mul_le_mul h3 h2
  have h2 := h1 ds h
  have h3 : 8 ^ ds.length ≤ 8 ^ 6 := Nat.pow_le_pow_right (by omega) hl
  simp at h3
  omega

attribute [local go_sem] Oper.semAt_some

set_option maxRecDepth 100000 in
set_option maxHeartbeats 8000000 in
theorem Orders_ok (A : Option Addr) (ds : List (List Int)) (c : Nat) (w : World) (hr : RDice w w.heap.size A ds) (hd : AreDice ds) (h4 : ds.length ≤ 4) (hco : commonL ds = false) :
    Calls Try.prog 30 #[.slice A ds.length c] w fun e w' => ∃ v, e = .returned (.tuple #[v, .int .i64 0]) ∧ I64Row w' w.heap.size v (numsL ds (ordersL ds.length)) ∧ Below w.heap.size w w' := by
  have hpos := hd.pos
  obtain ⟨wa, hwa⟩ : ∃ wa, w.alloc (Obj.cells #[Value.slice A ds.length c] 22) = wa := ⟨_, rfl⟩
  have hsa : wa.heap.size = w.heap.size + 1 := by rw [← hwa]; simp
  have HBa := Lib.hid (show Below w.heap.size w wa from by rw [← hwa]; exact (Below.refl _ w).alloc (Nat.le_refl _) _)
  have HBX := Lib.hid (show Box wa w.heap.size 22 #[Value.slice A ds.length c] from by rw [← hwa]; exact Box.new _ _ _)
  have HR := Lib.hid ((hr.below HBa.out).more (show w.heap.size ≤ wa.heap.size by omega))
  have HC := Lib.hid (check_any A ds c wa.heap.size wa HR.out (by omega) (fun d h => by have := (hd.die d h).ok.1; omega))
  have HZ := Lib.hid (checkL_zero hd)
  have HCS := Lib.hid (fun n => haveCommonSide_any A ds c (wa.drewN n) (HR.out.drewN n) hd.len (fun d h => (hd.die d h).ok))
  have HCO := Lib.hid hco
  have HD := Lib.hid hd
  have HSA := Lib.hid hsa
  have HWA := Lib.hid hwa
  have h4i : ¬ (4 : Int) < (ds.length : Int) := by omega
  have ca := HBX.out.cell 0
  simp only [List.getElem?_toArray, List.getElem?_cons_zero] at ca
  clear hr hd hco hsa hwa
  refine (callsIn_wide (n := 6)).1 ?_
  refine callsIn_of_wp_marks Try.func30 rfl trivial ?_ rfl
  simp only [Try.ntmps30, List.size_toArray, List.length_cons, List.length_nil, Nat.reduceAdd, Nat.reduceSub, Array.replicate_succ, Array.replicate_zero, List.push_toArray, List.append_toArray, List.nil_append, List.cons_append]
  gi_wp2
  rw [HWA.out]
  refine ⟨trivial, (callsIn_wide.2 HC.out).mono ?_⟩
  rintro e w' ⟨rfl, n, rfl⟩
  rw [HZ.out]
  gi_wp2
  refine ⟨trivial, (callsIn_wide.2 (HCS.out n)).mono ?_⟩
  rintro e wc ⟨rfl, hbc⟩
  rw [HCO.out]
  have hbc : Below wa.heap.size wa wc := ⟨hbc.os, hbc.tape, hbc.output, hbc.size, hbc.block⟩
  have hsc := hbc.size
  have hsa := HSA.out
  have HBc := Lib.hid (HBa.out.trans (hbc.mono (by omega)))
  have HBXc := Lib.hid (HBX.out.below hbc (by omega))
  have HRc := Lib.hid ((HR.out.below hbc).more hsc)
  clear hbc hsa ca
  have ca := HBXc.out.cell 0
  simp only [List.getElem?_toArray, List.getElem?_cons_zero] at ca
  have hlc : w.heap.size < wc.heap.size := by have := HSA.out; omega
  gi_wp2
  obtain ⟨wd, hwd⟩ : ∃ wd, wc.alloc (Obj.cells #[Value.slice none 0 0] 42) = wd := ⟨_, rfl⟩
  have hsd : wd.heap.size = wc.heap.size + 1 := by rw [← hwd]; simp
  have HBd := Lib.hid (show Below wc.heap.size wc wd from by rw [← hwd]; exact (Below.refl _ wc).alloc (Nat.le_refl _) _)
  have HNb := Lib.hid (show Box wd wc.heap.size 42 #[Value.slice none 0 0] from by rw [← hwd]; exact Box.new _ _ _)
  rw [hwd]
  clear hwd
  have HSD := Lib.hid hsd
  clear hsd
  refine ⟨trivial, (callsIn_wide.2 (orders_any ds.length wd (by omega))).mono ?_⟩
  rintro e w2 ⟨rfl, hbn, ⟨vi, hbi, hvi, hvb⟩, hb2⟩
  have hsd := HSD.out
  have hs2 := hb2.size
  have HBn := Lib.hid hbn
  have HBi := Lib.hid hbi
  have HVi := Lib.hid hvi
  have HVb := Lib.hid hvb
  have HB2 := Lib.hid (HBd.out.trans (hb2.mono (by omega)))
  have HN2 := Lib.hid (HNb.out.below hb2 (by omega))
  clear hbn hbi hvi hvb hb2 ca hsd
  gi_wp2
  have hsd := HSD.out
  refine rangeNowZ (m := 1) (gf := 93) (lb := #[.pointer (some ⟨wd.heap.size + 1, 0, none⟩), .pointer (some ⟨wd.heap.size, 0, none⟩)]) rfl (enters_of Try.func93 (by kernel_rfl) rfl)
    (D := fun b => b < w2.heap.size ∧ b ≠ wc.heap.size) (all := ordersL ds.length) (fun i hi => hi.1) ?hseq
    (fun z pre W => (∃ v, Box W wc.heap.size 42 #[v] ∧ I64Row W z v (numsL ds pre)) ∧ Below wc.heap.size wc W ∧ w2.heap.size ≤ z ∧ z ≤ W.heap.size) ?hI0 ?hI ?hround ?hdone
  case hseq =>
    intro W5 hb5
    have hl5 := hb5.size
    refine orders_seq wd.heap.size (wd.heap.size + 1) ds.length vi _ W5 (HBn.out.below hb5 HBn.out.lt) (HBi.out.below hb5 HBi.out.lt) (HVi.out.same fun g hg => hb5.block g (OwnV.blk HVi.out g hg).1) ⟨HBn.out.lt, by omega⟩ ⟨HBi.out.lt, by omega⟩ (fun b hb => ⟨(OwnV.blk HVi.out b hb).1, by have := HVb.out b hb; omega⟩) (fun b hb => by omega) hpos (by omega)
  case hI0 =>
    intro z W hb hz1 hz2
    exact ⟨⟨_, HN2.out.below hb HN2.out.lt, I64Row.nil_ _ _⟩, HB2.out.trans (hb.mono (by omega)), hz1, hz2⟩
  case hI =>
    rintro z pre W W' ⟨⟨v, i1, i2⟩, i3, i4, i5⟩ hT
    exact ⟨⟨v, i1.turn hT (by omega), i2.turn hT (fun g hg h => by have := (i2.base g hg).1; omega)⟩, i3.trans (hT.toBelow i3.size (by omega)), i4, Nat.le_trans i5 hT.size⟩
  case hround =>
    rintro l z pre x v W ⟨⟨vn, i1, i2⟩, i3, i4, i5⟩ hnow hpre hl1 hl2 ⟨r, hl⟩
    obtain ⟨hlx, hix⟩ := ordersL_spec (hpre.subset (by simp) : x ∈ ordersL ds.length)
    have hnow0 := hnow
    obtain ⟨av, cv, rfl, hcv, _⟩ := hnow
    have HLX := Lib.hid hlx
    clear hlx
    gi_wp2
    refine ⟨(Turn.refl _ W).alloc _, ?_⟩
    rintro W2 hT2 ⟨r2, hl3⟩
    have hsW : (W.alloc (Obj.cells #[Value.slice av x.length cv] 36)).heap.size = W.heap.size + 1 := by simp
    have hob : Box W2 W.heap.size 36 #[Value.slice av x.length cv] := (Box.new W _ _).turn hT2 (fun e => by have e : W.heap.size = l := e; omega)
    have hT3 : Turn (fun b => b = l) W W2 := (((Turn.refl (fun b => b = l) W).alloc _).trans hT2 (fun i _ h => h))
    have hno := hnow0.turn hT3 (fun b e _ o => by rw [e]; exact loop_cell hl o)
    obtain ⟨_, _, e, _, hri⟩ := hno
    cases e
    have j1 : Box W2 wc.heap.size 42 #[vn] := i1.turn hT3 (by omega)
    have j2 : I64Row W2 z vn (numsL ds pre) := i2.turn hT3 (fun g hg h => by have := (i2.base g hg).1; omega)
    have j3 : Below wc.heap.size wc W2 := i3.trans (hT3.toBelow i3.size (by omega))
    have cd := (HBXc.out.below j3 hlc).cell 0
    simp only [List.getElem?_toArray, List.getElem?_cons_zero] at cd
    have hld : w.heap.size < W2.heap.size := by have := j3.size; omega
    have hsz2 := hT3.size
    have hsz3 := hob.lt
    have HJ1 := Lib.hid j1
    have HJ2 := Lib.hid j2
    have HJ3 := Lib.hid j3
    have HOB := Lib.hid hob
    have HRI := Lib.hid hri
    have HL3 := Lib.hid hl3
    have HIX := Lib.hid hix
    have HPRE := Lib.hid hpre
    clear i1 i2 i3 hnow0 hT2 hT3 hob hri j1 j2 j3 hix hpre hsW hl hl3
    gi_wp2
    refine ⟨trivial, (CallsIn.inRound l (callsIn_wide.2 (results_any _ _ _ _))).mono ?_⟩
    rintro e w' ⟨rfl, rfl⟩
    gi_wp2
    obtain ⟨W4, hW4⟩ : ∃ W4, (W2.alloc (Obj.cells #[Value.int .i64 0] 2)).alloc (Obj.cells #[Value.slice A ds.length c] 22) = W4 := ⟨_, rfl⟩
    have hs4 : W4.heap.size = W2.heap.size + 2 := by rw [← hW4]; simp
    have hb24 : Below W2.heap.size W2 W4 := by rw [← hW4]; exact ((Below.refl _ W2).alloc (Nat.le_refl _) _).alloc (by simp) _
    have hnb4 : Box W4 W2.heap.size 2 #[Value.int .i64 0] := by rw [← hW4]; exact (Box.new W2 _ _).alloc _
    have hdb4 : Box W4 (W2.heap.size + 1) 22 #[Value.slice A ds.length c] := by
      rw [← hW4]
      have := Box.new (W2.alloc (Obj.cells #[Value.int .i64 0] 2)) 22 #[Value.slice A ds.length c]
      simpa using this
    rw [hW4]
    have hl4 : W4.heap[l]? = some (.loop r2) := (hb24.block l (by omega)).trans HL3.out
    clear hW4
    refine rangeNowZ_in (m := 1) (gf := 96) (lb := #[.pointer (some ⟨W2.heap.size + 1, 0, none⟩)]) hl4 rfl (enters_of Try.func96 (by kernel_rfl) rfl)
      (D := fun b => b < W4.heap.size ∧ b ≠ W2.heap.size) (all := rollL ds []) (fun i hi => hi.1) ?hseq2
      (fun _ pre' W' => Box W' W2.heap.size 2 #[Value.int .i64 (cntL pre' x : Nat)] ∧ Turn (fun b => ¬ (b < W4.heap.size ∧ b ≠ W2.heap.size)) W4 W') ?hI02 ?hI2 ?hround2 ?hdone2
    case hseq2 =>
      intro W5 hb5
      have hl5 := hb5.size
      refine results_seq (W2.heap.size + 1) c A ds _ W5 (hdb4.below hb5 (by omega)) ?_ ⟨by omega, by omega⟩ (fun i hi => by omega) (fun d hd => by have := (HD.out.die d hd).ok.1; omega) (by omega)
      have hb : Below wc.heap.size wc W5 := (HJ3.out.trans (hb24.mono HJ3.out.size)).trans (hb5.mono (by have := HJ3.out.size; omega))
      exact DiceD.of (HRc.out.below hb) hb.size (fun b hb2 => ⟨by have := HJ3.out.size; omega, by have := HJ3.out.size; omega⟩)
    case hI02 => exact fun z' W' hb _ _ => ⟨hnb4.below hb (by omega), (Turn.refl _ W4).below hb (Nat.le_refl _)⟩
    case hI2 =>
      rintro z' pre' W' W'' ⟨k1, k2⟩ hT
      exact ⟨k1.turn hT (by omega), k2.trans hT (fun i hi h => by omega)⟩
    case hround2 =>
      rintro l' z' pre' y v' W' ⟨k1, k2⟩ hnow' hpre' hl1' hl2' ⟨r', hl'⟩
      gi_wp2
      refine ⟨Turn.refl _ _, ?_⟩
      rintro W6 hT6 -
      have hTT : Turn (fun b => ¬ (b < W4.heap.size ∧ b ≠ W2.heap.size)) W4 W6 := k2.trans hT6 (fun i hi h => by omega)
      have hno := hnow'.turn hT6 (fun b e _ o => by rw [e]; exact loop_cell hl' o)
      obtain ⟨ay, cy, rfl, _, hry⟩ := hno
      have hyl : y.length = ds.length := by have := rollL_len _ _ _ (hpre'.subset (by simp) : y ∈ rollL ds []); simpa using this
      have k3 : Box W6 W2.heap.size 2 #[Value.int .i64 (cntL pre' x : Nat)] := k1.turn hT6 (by omega)
      have ko : Box W6 W.heap.size 36 #[Value.slice av x.length cv] := ((HOB.out.below hb24 (by omega))).turn hTT (by omega)
      have krx : RInts W6 W6.heap.size av x := fun j u hu => by
        obtain ⟨b, o, e, hb, hc⟩ := HRI.out j u hu
        exact ⟨b, o, e, by have := hTT.size; omega, (hTT.cell (p := ⟨b, o + j, none⟩) (by show b < _; omega) (fun h => h ⟨by show b < _; omega, by show b ≠ _; omega⟩)).trans ((hb24.cell (p := ⟨b, o + j, none⟩) hb).trans hc)⟩
      have HRS := Lib.hid (rises_any ay av y x cy cv W6.heap.size W6 hry krx (by rw [hyl]; exact HIX.out) (by have := HLX.out; omega) (by omega))
      have hcl : cntL pre' x ≤ 262144 := by
        have h1 := (List.countP_le_length (p := fun r => risesL r x) (l := pre'))
        have h2 := hpre'.length_le
        have h3 := rollL_small (fun d hd => (HD.out.die d hd).ok.1) HD.out.len
        simp at h2
        unfold cntL
        omega
      have co := ko.cell 0
      have cn := k3.cell 0
      have fn := k3.free 0
      simp only [List.getElem?_toArray, List.getElem?_cons_zero] at co cn
      have HK3 := Lib.hid k3
      have HTT := Lib.hid hTT
      have HPR := Lib.hid hpre'
      clear k1 k2 k3 ko krx hry hnow' hTT hyl hpre'
      have hcl1 : (0 : Int) ≤ (cntL pre' x : Nat) := by omega
      cases hrz : risesL y x with
      | true =>
        have HRZ := Lib.hid hrz
        have HCN := Lib.hid (show cntL (pre' ++ [y]) x = cntL pre' x + 1 by rw [cntL_snoc, hrz]; rfl)
        clear hrz
        gi_wp2
        refine ⟨trivial, (CallsIn.inRound l' (callsIn_wide.2 HRS.out)).mono ?_⟩
        rintro e w' ⟨rfl, nq, rfl⟩
        rw [HRZ.out]
        gi_wp2
        have hbx := (HK3.out.drewN nq).put 0 (.int .i64 ((cntL pre' x : Nat) + 1 : Int))
        refine ⟨⟨?_, (HTT.out.drewN nq).setCell (p := ⟨W2.heap.size, 0, none⟩) (.inl (by show ¬ _; simp only []; omega)) _⟩, ((Turn.refl _ W6).drewN nq).setCell (p := ⟨W2.heap.size, 0, none⟩) (.inl (by show ¬ _; simp only []; omega)) _⟩
        rw [HCN.out]
        exact hbx
      | false =>
        have HRZ := Lib.hid hrz
        have HCN := Lib.hid (show cntL (pre' ++ [y]) x = cntL pre' x by rw [cntL_snoc, hrz]; rfl)
        clear hrz
        gi_wp2
        refine ⟨trivial, (CallsIn.inRound l' (callsIn_wide.2 HRS.out)).mono ?_⟩
        rintro e w' ⟨rfl, nq, rfl⟩
        rw [HRZ.out]
        gi_wp2
        refine ⟨⟨?_, HTT.out.drewN nq⟩, (Turn.refl _ W6).drewN nq⟩
        rw [HCN.out]
        exact HK3.out.drewN nq
    case hdone2 =>
      rintro z' W' ⟨k1, k2⟩ hz'
      obtain ⟨i0, hi, hz0, hz1, hz2⟩ := info_parts (show (Try.prog.info? 2).map (fun i => (i.zero, i.size, i.bytes)) = some (some (.int .i64 0), 1, 8) from by kernel_rfl)
      have hlw := HJ1.out.lt
      have hlw4 : wc.heap.size < W4.heap.size := by omega
      have hlw2 : wc.heap.size ≠ W2.heap.size := by omega
      have m1 : Box W' wc.heap.size 42 #[vn] := (HJ1.out.below hb24 hlw).turn k2 (fun h => h ⟨hlw4, hlw2⟩)
      have hg2 : ∀ g, vn.ownBlock = some g → g < W2.heap.size := fun g hg => (HJ2.out.base g hg).2.1
      have m2 : I64Row W' z vn (numsL ds pre) := (HJ2.out.same fun g hg => hb24.block g (hg2 g hg)).turn k2 (fun g hg h => by have h5 := hg2 g hg; exact h ⟨by omega, by omega⟩)
      have hsw := k2.size
      have cn := k1.cell 0
      have cb := m1.cell 0
      simp only [List.getElem?_toArray, List.getElem?_cons_zero] at cn cb
      have hlb := m1.lt
      have HM1 := Lib.hid m1
      have HM2 := Lib.hid m2
      have HK2 := Lib.hid k2
      have hnl : (numsL ds pre).length ≤ 1000000 := by
        have h1 := HPRE.out.length_le
        have h2 : (ordersL ds.length).length ≤ _ := List.length_filter_le _ _
        have h3 := rollL_small (ds := List.replicate ds.length (evK ds.length)) (fun d hd => by have := List.eq_of_mem_replicate hd; subst this; simp [evK]; omega) (by simp; omega)
        simp [numsL] at h1 ⊢
        omega
      have HNL := Lib.hid hnl
      have h8 := len8 hnl
      have hzw : z ≤ (W'.alloc (Obj.cells #[Value.int .i64 (cntL (rollL ds []) x : Nat)] 2)).heap.size := by simp; omega
      have HZW := Lib.hid hzw
      have HAD := Lib.hid (show (numsL ds pre).length + 1 ≤ maxLen by unfold maxLen; omega)
      have HAB := Lib.hid (show ((numsL ds pre).length + 1) * 8 ≤ 140737488355328 by omega)
      clear k1 k2 m1 m2 hnl h8 hzw
      gi_wp2_with (gi_at_builtin; refine wpListIn_append_own _ rfl _ _ 42 rfl z 2 i0 (.int .i64 0) 1 8 Try.underlying42 hi hz0 hz1 hz2 rfl (by decide) _ _ _ rfl (World.ownsRow.alloc HM2.out _) ⟨W'.heap.size, 0, none⟩ 1 1 [.int .i64 (cntL (rollL ds []) x : Nat)] rfl rfl (cell_one_new _ _ _) (by simp [Value.oneCell']) HAD.out HAB.out HZW.out ?_; intro v9 w9 hown9 hg9 _; obtain ⟨g9, cap9, rfl⟩ := ownsRow_succ hown9; have hb9 : Box w9 wc.heap.size 42 #[vn] := (HM1.out.alloc _).grown hg9 (fun e => by have := (HM2.out.base _ e.symm).1; omega); have cb9 := hb9.cell 0; have fb9 := hb9.free 0; simp only [List.getElem?_toArray, List.getElem?_cons_zero] at cb9)
      have hg9z : z ≤ g9 ∧ g9 < w9.heap.size := by
        rcases hown9.2 with ⟨h1, _⟩ | ⟨g', cap', cur', e, hb, hh, _⟩
        · cases h1
        · cases e
          exact ⟨hb, Box.lt hh⟩
      have hs9 := hg9.size
      have hsa9 : (W'.alloc (Obj.cells #[Value.int .i64 (cntL (rollL ds []) x : Nat)] 2)).heap.size = W'.heap.size + 1 := by simp
      have hwz : w2.heap.size ≤ z := i4
      refine ⟨⟨⟨_, hb9.put 0 _, ?_⟩, ?_, i4, by simp; omega⟩, ?_⟩
      · have h1 : I64Row w9 z (.slice (some ⟨g9, 0, none⟩) ((numsL ds pre).length + 1) cap9) (numsL ds (pre ++ [x])) := by
          unfold I64Row
          rw [numsL_snoc]
          simpa using hown9
        exact h1.same fun g hg => Below.heap_setCell _ _ _ _ (fun e => by have e2 : g9 = g := (by simpa [Value.ownBlock] using hg); have e3 : g = wc.heap.size := e; omega)
      · exact ((((HJ3.out.trans (hb24.mono HJ3.out.size)).trans (HK2.out.toBelow (by have := HJ3.out.size; omega) (fun i hi h => h ⟨by have := HJ3.out.size; omega, by have := HJ3.out.size; omega⟩))).alloc (by omega) _).grown hg9 (by rw [hsa9]; omega) (fun k hk => by have := (HM2.out.base _ hk).1; omega)).setCell (p := ⟨wc.heap.size, 0, none⟩) (Nat.le_refl _) _
      · have t1 : Turn (fun b => ¬(b < w2.heap.size ∧ b ≠ wc.heap.size ∨ w2.heap.size ≤ b ∧ b < z)) W2 W4 := (Turn.refl _ W2).below hb24 (Nat.le_refl _)
        have t2 := t1.trans HK2.out (fun i hi h => (h ⟨by omega, by omega⟩).elim)
        exact ((t2.alloc _).grown hg9 (fun k hk => .inl (fun h => by have := (HM2.out.base _ hk).1; omega))).setCell (p := ⟨wc.heap.size, 0, none⟩) (.inl (fun h => by have h2 : wc.heap.size < w2.heap.size ∧ wc.heap.size ≠ wc.heap.size ∨ w2.heap.size ≤ wc.heap.size ∧ wc.heap.size < z := h; omega)) _
  case hdone =>
    rintro z W ⟨⟨vn, i1, i2⟩, i3, i4, i5⟩ hz hK
    have cn := i1.cell 0
    simp only [List.getElem?_toArray, List.getElem?_cons_zero] at cn
    gi_wp2
    have hK2 : W.heap[w2.heap.size]? = some (.deferred (some [])) := hK
    refine ⟨by simp, .inl ⟨_, _, rfl, run_takeDeferred hK2, .tuple #[vn, .int .i64 0], (by simp [results, Try.results30, go_sem]), vn, rfl, ?_, ?_⟩⟩
    · exact (i2.same fun g hg => World.putObj_heap_other (fun e => by have := (i2.base g hg).1; omega)).lower (by omega)
    · have hb := HBc.out.trans (i3.mono (by have := HBc.out.size; omega))
      exact hb.trans ((Turn.putObj (X := fun b => b = w2.heap.size) (Turn.refl _ W) (.inl rfl) _).toBelow hb.size (by omega))

end Go.Proofs.Ytkkholagmjcgiaa
