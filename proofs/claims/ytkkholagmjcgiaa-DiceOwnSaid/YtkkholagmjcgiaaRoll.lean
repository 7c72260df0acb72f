/- The iterator that results returns: it hands out all results, in the order of the places of their sides, in a list that it writes anew. -/
import Derived.Test.YtkkholagmjcgiaaSeq
import Derived.Deep.LoopGhost
import Derived.RegionTactic
namespace Go.Proofs.Ytkkholagmjcgiaa
open Go.RowKit Go.Shelf

/-- The results of dice that begin with some sides. -/
def rollL : List (List Int) → List Int → List (List Int)
  | [], p => [p]
  | d :: ds, p => d.flatMap fun s => rollL ds (p ++ [s])

/-- Values that lie in blocks of D. -/
def LiesD (D : Nat → Prop) (W : World) (A : Option Addr) (xs : List Value) : Prop :=
  ∀ (j : Nat) (u : Value), xs[j]? = some u → ∃ b o, A = some ⟨b, o, none⟩ ∧ D b ∧ b < W.heap.size ∧ W.cell? ⟨b, o + j, none⟩ = some u
/-- Dice that lie in blocks of D. -/
def DiceD (D : Nat → Prop) (W : World) (A : Option Addr) (ds : List (List Int)) : Prop :=
  ∃ vs : List Value, vs.length = ds.length ∧ LiesD D W A vs ∧ ∀ (i : Nat) (v : Value) (d : List Int), vs[i]? = some v → ds[i]? = some d → ∃ a c, v = .slice a d.length c ∧ LiesD D W a (d.map (Value.int .i64))

section
variable {D X : Nat → Prop} {A : Option Addr} {W W' : World} {xs : List Value} {ds : List (List Int)} {zs : List Int}
theorem LiesD.turn (h : LiesD D W A xs) (hT : Turn X W W') (hX : ∀ b, D b → b < W.heap.size → ¬ X b) : LiesD D W' A xs := fun j u hu => by
  obtain ⟨b, o, e, hd, hb, hc⟩ := h j u hu
  exact ⟨b, o, e, hd, Nat.lt_of_lt_of_le hb hT.size, (hT.cell (p := ⟨b, o + j, none⟩) hb (hX b hd hb)).trans hc⟩
theorem LiesD.of {B : Nat} (h : Lies W B A xs) (hB : B ≤ W.heap.size) (hD : ∀ b, b < B → D b) : LiesD D W A xs := fun j u hu => by
  obtain ⟨b, o, e, hb, hc⟩ := h j u hu
  exact ⟨b, o, e, hD b hb, by omega, hc⟩
theorem LiesD.int_at {k : Nat} (h : LiesD D W A (zs.map (Value.int .i64))) (hk : k < zs.length) : ∃ b o x, A = some ⟨b, o, none⟩ ∧ D b ∧ zs[k]? = some x ∧ W.cell? ⟨b, o + k, none⟩ = some (.int .i64 x) := by
  obtain ⟨b, o, e, hd, _, hc⟩ := h k (.int .i64 zs[k]) (by simp [hk])
  exact ⟨b, o, _, e, hd, List.getElem?_eq_getElem hk, hc⟩
theorem DiceD.turn (h : DiceD D W A ds) (hT : Turn X W W') (hX : ∀ b, D b → b < W.heap.size → ¬ X b) : DiceD D W' A ds := by
  obtain ⟨vs, hl, hv, hd⟩ := h
  refine ⟨vs, hl, hv.turn hT hX, fun i v d h1 h2 => ?_⟩
  obtain ⟨a, c, e, hr⟩ := hd i v d h1 h2
  exact ⟨a, c, e, hr.turn hT hX⟩
theorem DiceD.of {B : Nat} (h : RDice W B A ds) (hB : B ≤ W.heap.size) (hD : ∀ b, b < B → D b) : DiceD D W A ds := by
  obtain ⟨vs, hl, hv, hd⟩ := h
  refine ⟨vs, hl, LiesD.of hv hB hD, fun i v d h1 h2 => ?_⟩
  obtain ⟨a, c, e, _, hr⟩ := hd i v d h1 h2
  exact ⟨a, c, e, LiesD.of hr hB hD⟩
theorem DiceD.at_ {k : Nat} (h : DiceD D W A ds) (hk : k < ds.length) : ∃ b o a c d, A = some ⟨b, o, none⟩ ∧ D b ∧ ds[k]? = some d ∧ W.cell? ⟨b, o + k, none⟩ = some (.slice a d.length c) ∧ LiesD D W a (d.map (Value.int .i64)) := by
  obtain ⟨vs, hl, hv, hd⟩ := h
  have hkv : k < vs.length := by omega
  obtain ⟨b, o, e, hdb, _, hc⟩ := hv k _ (List.getElem?_eq_getElem hkv)
  obtain ⟨a, c, e2, hr⟩ := hd k _ _ (List.getElem?_eq_getElem hkv) (List.getElem?_eq_getElem hk)
  exact ⟨b, o, a, c, _, e, hdb, List.getElem?_eq_getElem hk, by rw [hc, e2], hr⟩
end

/-- What roll finds in memory: the variables that it captures, the dice, the list with its first sides. -/
structure Roll (l Bd By Bs Bl Br c : Nat) (D : Nat → Prop) (A : Option Addr) (ds : List (List Int)) (p : List Int) (W : World) : Prop where
  bd : Box W Bd 22 #[.slice A ds.length c]
  by_ : Box W By 78 #[.func (.yield l) #[] #[]]
  bs : Box W Bs 36 #[.slice (some ⟨Br, 0, none⟩) ds.length ds.length]
  bl : Box W Bl 103 #[.func (.func 97) #[] #[.pointer (some ⟨Bd, 0, none⟩), .pointer (some ⟨By, 0, none⟩), .pointer (some ⟨Bs, 0, none⟩), .pointer (some ⟨Bl, 0, none⟩)]]
  rd : DiceD D W A ds
  br : ∃ cs, Box W Br 3 cs ∧ cs.size = ds.length ∧ cs.toList.take p.length = p.map (Value.int .i64)

section
variable {l Bd By Bs Bl Br c : Nat} {D : Nat → Prop} {A : Option Addr} {ds : List (List Int)} {p : List Int} {W W' : World}
theorem Roll.now (h : Roll l Bd By Bs Bl Br c D A ds p W) (hp : p.length = ds.length) : Now (.slice (some ⟨Br, 0, none⟩) ds.length ds.length) p W := by
  obtain ⟨cs, hb, hs, ht⟩ := h.br
  refine ⟨some ⟨Br, 0, none⟩, ds.length, by rw [hp], by omega, fun j u hu => ?_⟩
  have hj : j < p.length := by
    have := (List.getElem?_eq_some_iff.1 hu).1
    simpa using this
  refine ⟨Br, 0, rfl, hb.lt, ?_⟩
  rw [Nat.zero_add, hb.cell j]
  rw [← ht, List.getElem?_take, if_pos hj] at hu
  rwa [Array.getElem?_toList] at hu
theorem Roll.turn {X : Nat → Prop} (h : Roll l Bd By Bs Bl Br c D A ds p W) (hT : Turn X W W') (h0 : ∀ b, D b → b < W.heap.size → ¬ X b) (h1 : ¬ X Bd) (h2 : ¬ X By) (h3 : ¬ X Bs) (h4 : ¬ X Bl) (h5 : ¬ X Br) : Roll l Bd By Bs Bl Br c D A ds p W' := by
  obtain ⟨cs, hb, hs, ht⟩ := h.br
  exact ⟨h.bd.turn hT h1, h.by_.turn hT h2, h.bs.turn hT h3, h.bl.turn hT h4, h.rd.turn hT h0, cs, hb.turn hT h5, hs, ht⟩
theorem Roll.shorter {x : Int} (h : Roll l Bd By Bs Bl Br c D A ds (p ++ [x]) W) : Roll l Bd By Bs Bl Br c D A ds p W := by
  obtain ⟨cs, hb, hs, ht⟩ := h.br
  refine ⟨h.bd, h.by_, h.bs, h.bl, h.rd, cs, hb, hs, ?_⟩
  have := congrArg (List.take p.length) ht
  rw [List.take_take, List.length_append] at this
  simp only [List.length_cons, List.length_nil] at this
  rw [Nat.min_eq_left (by omega)] at this
  rw [this]
  simp
theorem Roll.put (h : Roll l Bd By Bs Bl Br c D A ds p W) (hp : p.length < ds.length) (hDB : ∀ b, D b → b < Br) (x : Int) : Roll l Bd By Bs Bl Br c D A ds (p ++ [x]) (W.setCell ⟨Br, p.length, none⟩ (.int .i64 x)) := by
  obtain ⟨cs, hb, hs, ht⟩ := h.br
  refine ⟨h.bd.far (h.bd.ne hb (by decide)) _, h.by_.far (h.by_.ne hb (by decide)) _, h.bs.far (h.bs.ne hb (by decide)) _, h.bl.far (h.bl.ne hb (by decide)) _,
    h.rd.turn (Turn.setCell (X := fun b => b = Br) (p := ⟨Br, p.length, none⟩) (Turn.refl _ W) (.inl rfl) _) (fun b hb _ e => by have := hDB b hb; omega), _, hb.put p.length (.int .i64 x), by simp [hs], ?_⟩
  rw [List.length_append, List.length_cons, List.length_nil, List.map_append, ← ht, Array.toList_setIfInBounds]
  have hl : p.length < cs.toList.length := by simp; omega
  rw [List.take_succ_eq_append_getElem (by rw [List.length_set]; exact hl), List.take_set_of_le (Nat.le_refl _)]
  simp
end

attribute [local go_sem] Oper.semAt_some

set_option maxRecDepth 100000 in
set_option maxHeartbeats 2000000 in
theorem roll_leaf (l Bd By Bs Bl Br c : Nat) (D : Nat → Prop) (A : Option Addr) (ds : List (List Int)) (p : List Int) (W : World) (R : Ending → World → Prop) (h : Roll l Bd By Bs Bl Br c D A ds p W) (_ : p.length = ds.length)
    (hy : YieldAt Fence.wide 0 Try.prog l #[.slice (some ⟨Br, 0, none⟩) ds.length ds.length] W fun e W' => e = .returned (.bool true) ∧ R e W') :
    Calls Try.prog 97 #[.int .i64 ds.length, .pointer (some ⟨Bd, 0, none⟩), .pointer (some ⟨By, 0, none⟩), .pointer (some ⟨Bs, 0, none⟩), .pointer (some ⟨Bl, 0, none⟩)] W R := by
  refine (callsIn_wide (n := 3)).1 ?_
  have c1 := h.bd.cell 0
  have c2 := h.by_.cell 0
  have c3 := h.bs.cell 0
  simp only [List.getElem?_toArray, List.getElem?_cons_zero] at c1 c2 c3
  obtain ⟨fn, tmps, assign, body, hy, hR⟩ := hy
  have hR := RoundIn.anyDepth (m' := 2) hR
  clear h
  refine callsIn_of_wp Try.func97 rfl trivial ?_ rfl
  simp only [Try.ntmps97, List.size_toArray, List.length_cons, List.length_nil, Nat.reduceAdd, Nat.reduceSub, Array.replicate_succ, Array.replicate_zero, List.push_toArray, List.append_toArray, List.nil_append, List.cons_append]
  gi_wp2_with ((try refine ⟨(fun h => by cases h), ?_⟩); refine hR.mono ?_; clear hR; rintro e W2 ⟨rfl, hr⟩)
  exact hr


set_option maxRecDepth 100000 in
set_option maxHeartbeats 2000000 in
theorem roll_any (l Bd By Bs Bl Br c : Nat) (D : Nat → Prop) (A : Option Addr) (ds : List (List Int)) (all : List (List Int)) (St : Nat → Prop) (J : List (List Int) → World → Prop)
    (hJ : ∀ pre W W', J pre W → Turn (fun b => b = Br) W W' → J pre W')
    (hY : ∀ pre x v W, J pre W → Now v x W → pre ++ [x] <+: all → YieldAt Fence.wide 0 Try.prog l #[v] W fun e W' => e = .returned (.bool true) ∧ J (pre ++ [x]) W' ∧ Turn (fun b => ¬ St b) W W')
    (h0 : ∀ b, D b → St b) (h1 : St Bd) (h2 : St By) (h3 : St Bs) (h4 : St Bl) (h5 : St Br) (hDB : ∀ b, D b → b < Br) (hds : ∀ d ∈ ds, d.length ≤ 1000) (hn : ds.length ≤ 1000) :
    ∀ (k : Nat) (p : List Int) (pre : List (List Int)) (W : World), p.length + k = ds.length → Roll l Bd By Bs Bl Br c D A ds p W → J pre W → pre ++ rollL (ds.drop p.length) p <+: all →
      Calls Try.prog 97 #[.int .i64 p.length, .pointer (some ⟨Bd, 0, none⟩), .pointer (some ⟨By, 0, none⟩), .pointer (some ⟨Bs, 0, none⟩), .pointer (some ⟨Bl, 0, none⟩)] W
        fun e W' => e = .returned (.bool true) ∧ J (pre ++ rollL (ds.drop p.length) p) W' ∧ Roll l Bd By Bs Bl Br c D A ds p W' ∧ Turn (fun b => ¬ St b ∨ b = Br) W W' := by
  intro k
  induction k with
  | zero =>
    intro p pre W hk hR hj hpre
    have hl : p.length = ds.length := by omega
    have hlt : Br < W.heap.size := by obtain ⟨cs, hb, _⟩ := hR.br; exact hb.lt
    have e1 : rollL (ds.drop p.length) p = [p] := by rw [hl, List.drop_length]; rfl
    rw [e1] at hpre ⊢
    have hy := hY pre p _ W hj (hR.now hl) hpre
    have := roll_leaf l Bd By Bs Bl Br c D A ds p W _ hR hl (YieldAt.mono hy fun e w' h => ⟨h.1, h⟩)
    rw [← hl] at this
    refine this.mono ?_
    rintro e W' ⟨rfl, hj', hT⟩
    exact ⟨rfl, hj', hR.turn hT (fun b hb _ h => h (h0 b hb)) (fun h => h h1) (fun h => h h2) (fun h => h h3) (fun h => h h4) (fun h => h h5), hT.imp fun i _ h => .inl h⟩
  | succ k ih =>
    intro p pre W hk hR hj hpre
    have hpl : p.length < ds.length := by omega
    obtain ⟨b, o, a, cd, d, hA, hb, hd, hcd, hri⟩ := hR.rd.at_ hpl
    subst hA
    have hdl := hds d (List.mem_of_getElem? hd)
    obtain ⟨rest, hrest⟩ : ∃ rest, ds.drop (p.length + 1) = rest := ⟨_, rfl⟩
    have hdrop : ds.drop p.length = d :: rest := by
      rw [← hrest, List.drop_eq_getElem_cons hpl, (List.getElem?_eq_some_iff.1 hd).2]
    rw [hdrop] at hpre ⊢
    have HRL := Lib.hid (show rollL (d :: rest) p = d.flatMap fun s => rollL rest (p ++ [s]) from rfl)
    have HIH := Lib.hid ih
    have HPRE := Lib.hid hpre
    have HREST := Lib.hid hrest
    have HJ := Lib.hid hJ
    have H0 := Lib.hid h0
    have HDB := Lib.hid hDB
    have HST := Lib.hid (show St Bd ∧ St By ∧ St Bs ∧ St Bl ∧ St Br from ⟨h1, h2, h3, h4, h5⟩)
    have HR := Lib.hid hR
    have HRI := Lib.hid hri
    have HJ0 := Lib.hid hj
    have c1 := hR.bd.cell 0
    have c3 := hR.bs.cell 0
    have c4 := hR.bl.cell 0
    simp only [List.getElem?_toArray, List.getElem?_cons_zero] at c1 c3 c4
    have hpi : (p.length : Int) < (ds.length : Int) := by omega
    have hne : ¬ ((p.length : Int) = (ds.length : Int)) := by omega
    have hlt : Br < W.heap.size := by obtain ⟨cs, hb, _⟩ := hR.br; exact hb.lt
    clear ih hpre hrest hJ hY h0 hDB h1 h2 h3 h4 h5 hri hj hd hdrop hR hds
    go_enter Try.func97, Try.ntmps97
    go_wp2_with fail
    rw [show ((p.length : Int) == (ds.length : Int)) = false by simpa using hne]
    go_loopg [21] d.length (fun g i wx => ∃ j : Nat, j + g = d.length ∧ i = .int .i64 j ∧ Hid (J (pre ++ (d.take j).flatMap fun s => rollL rest (p ++ [s])) wx) ∧ Hid (Roll l Bd By Bs Bl Br c D (some ⟨b, o, none⟩) ds p wx) ∧ Hid (Turn (fun b => ¬ St b ∨ b = Br) W wx))
    case atStart => exact ⟨0, by omega, rfl, (by show J _ _; simpa using HJ0.out), HR, Turn.refl _ _⟩
    case round =>
      clear c1 c3 c4 hcd
      obtain ⟨j, hjg, rfl, HJ1, HR1, HT1⟩ := hrel
      have HJ2 := HJ1
      have HR2 := HR1
      have HT2 := HT1
      clear HJ1 HR1 HT1
      have c3 := HR2.out.bs.cell 0
      have c4 := HR2.out.bl.cell 0
      simp only [List.getElem?_toArray, List.getElem?_cons_zero] at c3 c4
      obtain ⟨cs, hbr, hcs, _⟩ := HR2.out.br
      have n3 : Bs ≠ Br := HR2.out.bs.ne hbr (by decide)
      have n4 : Bl ≠ Br := HR2.out.bl.ne hbr (by decide)
      have fr := hbr.free p.length
      have cr : ∃ u, wr.cell? ⟨Br, p.length, none⟩ = some u := ⟨_, (hbr.cell p.length).trans (Array.getElem?_eq_getElem (by omega))⟩
      obtain ⟨u0, cr⟩ := cr
      clear hbr hcs
      cases gk with
      | zero =>
        obtain rfl : j = d.length := by omega
        go_wp2_with fail
        go_ret
        refine ⟨rfl, ?_, HR2.out, HT2.out⟩
        have := HJ2.out
        rw [List.take_length] at this
        rw [HRL.out]
        exact this
      | succ g =>
        have hri : LiesD D wr a (d.map (Value.int .i64)) := HRI.out.turn HT2.out (fun b' hb' _ => by
          show ¬ (¬ St b' ∨ b' = Br)
          rintro (h | h)
          · exact h (H0.out b' hb')
          · have := HDB.out b' hb'
            omega)
        obtain ⟨bd, od, x, hA, hbd, hx, hcx⟩ := hri.int_at (k := j) (by omega)
        subst hA
        have hlt2 : j < d.length := by omega
        have HT3 := Lib.hid (show d.take (j + 1) = d.take j ++ [x] by rw [List.take_succ_eq_append_getElem hlt2, (List.getElem?_eq_some_iff.1 hx).2])
        have hjl : (j : Int) < (d.length : Int) := by omega
        have HRP := Lib.hid (HR2.out.put hpl HDB.out x)
        have HD := Lib.hid (show d = d.take j ++ x :: d.drop (j + 1) by
          conv => lhs; rw [← List.take_append_drop j d, List.drop_eq_getElem_cons hlt2, (List.getElem?_eq_some_iff.1 hx).2])
        have HCALL := Lib.hid (HIH.out (p ++ [x]) (pre ++ (d.take j).flatMap fun s => rollL rest (p ++ [s])) (wr.setCell ⟨Br, p.length, none⟩ (.int .i64 x)) (by simp; omega) HRP.out
          (HJ.out _ _ _ HJ2.out (Turn.setCell (X := fun b => b = Br) (p := ⟨Br, p.length, none⟩) (Turn.refl _ wr) (.inl rfl) _))
          (by
            have e1 : (p ++ [x]).length = p.length + 1 := by simp
            rw [e1, HREST.out]
            refine List.IsPrefix.trans ?_ HPRE.out
            rw [HRL.out]
            conv => rhs; rw [HD.out]
            rw [List.flatMap_append, List.flatMap_cons]
            exact ⟨(d.drop (j + 1)).flatMap fun s => rollL rest (p ++ [s]), by simp only [List.append_assoc]⟩))
        have hc := HCALL.out
        rw [show (((p ++ [x]).length : Nat) : Int) = (p.length : Int) + 1 by simp, show (p ++ [x]).length = p.length + 1 by simp, HREST.out] at hc
        have HC := Lib.hid hc
        clear hri hx hc HCALL
        go_wp2_with fail
        refine HC.out.mono ?_
        rintro e w5 ⟨rfl, hj5, hr5, ht5⟩
        have HJ5 := Lib.hid hj5
        have HR5 := Lib.hid hr5.shorter
        have HT5 := Lib.hid ht5
        clear hj5 hr5 ht5
        go_wp2_with fail
        go_roundg g
        case measure => omega
        case rel =>
          refine ⟨j + 1, by omega, by go_num, ?_, HR5, ?_⟩
          · show J _ _
            rw [HT3.out, List.flatMap_append]
            have := HJ5.out
            rw [List.append_assoc] at this
            simpa using this
          · exact Turn.trans (Turn.setCell (p := ⟨Br, p.length, none⟩) HT2.out (.inl (.inr rfl)) _) HT5.out (fun i _ h => h)

end Go.Proofs.Ytkkholagmjcgiaa
