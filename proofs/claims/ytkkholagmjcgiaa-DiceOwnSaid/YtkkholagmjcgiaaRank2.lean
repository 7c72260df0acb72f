/- The closure of rank, IndexFunc over it, and the library's Delete at a row of one's own. · The function rank of package dice: it takes dice away, one after the other, as the plain function does; nothing that was there turns. -/
import Derived.Test.YtkkholagmjcgiaaWinner
import Derived.Test.YtkkholagmjcgiaaEven
import Derived.RegionTactic
namespace Go.Proofs.Ytkkholagmjcgiaa
open Go.RowKit

/-- Cells stored one behind the other into a block. -/
theorem box_setCells {g : Nat} {t : TypeId} : ∀ (vs : List Value) (o : Nat) {w : World} {cs : Array Value}, Box w g t cs → o + vs.length ≤ cs.size →
    ∃ cs', Box (w.setCells g o vs) g t cs' ∧ cs'.size = cs.size ∧ ∀ j, cs'[j]? = if o ≤ j ∧ j < o + vs.length then vs[j - o]? else cs[j]?
  | [], o, w, cs, h, _ => ⟨cs, h, rfl, fun j => by rw [if_neg (by simp)]⟩
  | v :: r, o, w, cs, h, hl => by
    simp only [List.length_cons] at hl
    obtain ⟨cs', h1, h2, h3⟩ := box_setCells r (o + 1) (h.put o v) (by simp; omega)
    refine ⟨cs', h1, by rw [h2]; simp, fun j => ?_⟩
    rw [h3 j]
    by_cases ha : o + 1 ≤ j ∧ j < o + 1 + r.length
    · rw [if_pos ha, if_pos ⟨by omega, by simp; omega⟩, show j - o = (j - (o + 1)) + 1 by omega]
      rfl
    · rw [if_neg ha]
      by_cases hb : j = o
      · subst hb
        rw [if_pos ⟨Nat.le_refl _, by simp⟩, Nat.sub_self]
        simp [show j < cs.size by omega]
      · rw [if_neg (by simp; omega)]
        simp [Ne.symm hb]

theorem grown_setCells {w : World} {g : Nat} : ∀ (vs : List Value) (o : Nat), w.grownBy (w.setCells g o vs) (some g)
  | vs, o => by
    induction vs generalizing w o with
    | nil => exact World.grownBy.refl w _
    | cons v r ih =>
      have h1 : w.grownBy (w.setCell ⟨g, o, none⟩ v) (some g) :=
        ⟨rfl, rfl, rfl, by simp [World.setCell], fun i hi hne => Below.heap_setCell w _ v i (fun e => hne (by rw [e]))⟩
      exact h1.andThen (ih (w := w.setCell ⟨g, o, none⟩ v) (o + 1)) (fun j hj => .inr (by rw [hj]))

/-- slices.Delete of one element, at a row of one's own. -/
theorem Delete_own (g k i : Nat) (zs : List Int) (w : World) (h : OwnR w g k zs) (hi : i < zs.length) :
    Calls Try.prog 89 #[.slice (some ⟨g, 0, none⟩) zs.length k, .int .i64 i, .int .i64 ((i + 1 : Nat) : Int)] w fun e w' => e = .returned (.slice (some ⟨g, 0, none⟩) (zs.length - 1) k) ∧ OwnR w' g k (zs.eraseIdx i) ∧ w.grownBy w' (some g) := by
  obtain ⟨cur, hb, h1, h2, h3, h4⟩ := h.box
  have hcells : ∀ j, j < zs.length → w.cell? ⟨g, 0 + j, none⟩ = some (.int .i64 (zs.getD j 0)) := fun j hj => by
    have h1 := h.at_ (List.getElem?_eq_getElem hj)
    have h2 : zs.getD j 0 = zs[j] := by simp [List.getD, List.getElem?_eq_getElem hj]
    rw [h2, Nat.zero_add]
    exact h1
  have hc := Try.slices_Delete_int_cells g 0 zs.length k i (i + 1) zs w (Nat.le_refl _) h2 (by unfold maxLen at h3; exact h3) (by omega) (by omega) hcells (fun j _ => hb.free _)
  refine hc.mono ?_
  rintro e w' ⟨rfl, q, rfl⟩
  have hlen : (((zs.take zs.length).take i ++ (zs.take zs.length).drop (i + 1) ++ List.replicate (i + 1 - i) (0 : Int)).map (Value.int .i64)).length = zs.length := by simp; omega
  obtain ⟨cs', b1, b2, b3⟩ := box_setCells _ 0 (hb.drewN q) (by rw [hlen]; omega)
  have her : zs.eraseIdx i = zs.take i ++ zs.drop (i + 1) := List.eraseIdx_eq_take_drop_succ zs i
  have hel : (zs.eraseIdx i).length = zs.length - 1 := by rw [List.length_eraseIdx, if_pos hi]
  refine ⟨by rw [show i + 1 - i = 1 by omega], OwnR.of_box b1 (by rw [b2, h1]) (by omega) h3 ?_, ?_⟩
  · apply List.ext_getElem?
    intro j
    rw [List.getElem?_take]
    by_cases hj : j < (zs.eraseIdx i).length
    · rw [if_pos hj, Array.getElem?_toList, b3 j, if_pos ⟨Nat.zero_le _, by rw [hlen]; omega⟩, Nat.sub_zero, List.take_length, List.getElem?_map, List.getElem?_map, List.getElem?_append_left (by simp; omega), ← her]
    · rw [if_neg hj, List.getElem?_eq_none (by simp; omega)]
  · exact ⟨(grown_setCells (w := w.drewN q) _ 0).os, (grown_setCells (w := w.drewN q) _ 0).tape, (grown_setCells (w := w.drewN q) _ 0).output, (grown_setCells (w := w.drewN q) _ 0).size, (grown_setCells (w := w.drewN q) _ 0).block⟩

/-- An index, or -1. -/
def idxOr : Option Nat → Int
  | some i => (i : Int)
  | none => -1

/-- The first of the dice left that none of those left beats. -/
def pick (t : List (List Bool)) (left : List Int) : Option Nat := left.findIdx? fun d => decide (winnerL t left d < 0)
/-- Dice are taken away, one after the other. -/
def rankL (t : List (List Bool)) : Nat → List Int → List Int → List Int × List Int
  | 0, r, l => (r, l)
  | k + 1, r, l => match pick t l with
    | none => (r, l)
    | some i => rankL t k (r ++ [l.getD i 0]) (l.eraseIdx i)

set_option maxHeartbeats 1000000 in
theorem rank1_any (A A2 : Option Addr) (t : List (List Bool)) (left : List Int) (d : Int) (c c2 n B Bt Bl : Nat) (w : World) (hbt : Box w Bt 37 #[.slice A n c]) (hbl : Box w Bl 36 #[.slice A2 left.length c2])
    (ht : RTab w B A t) (hs : RInts w B A2 left) (hq : Square t n) (hi : Inds left n) (hd : 0 ≤ d ∧ d < n) (hn : n ≤ 1000) (hl : left.length ≤ 1000) :
    Calls Try.prog 87 #[.int .i64 d, .pointer (some ⟨Bt, 0, none⟩), .pointer (some ⟨Bl, 0, none⟩)] w fun e w' => e = .returned (.bool (decide (winnerL t left d < 0))) ∧ w = w' := by
  have HC := Lib.hid (winner_any A A2 t left d c c2 n B w ht hs hq hi hd hn hl)
  have c1 := hbt.cell 0
  have c2' := hbl.cell 0
  simp only [List.getElem?_toArray, List.getElem?_cons_zero] at c1 c2'
  clear hbt hbl ht hs hq hi hd
  go_enter Try.func87, Try.ntmps87
  go_wp2_with fail
  refine HC.out.mono ?_
  rintro e w' ⟨rfl, rfl⟩
  go_wp2_with fail
  go_ret
  exact ⟨rfl, rfl⟩

set_option maxHeartbeats 1000000 in
theorem IndexFunc_rank (p : Int → Bool) (A2 : Option Addr) (left : List Int) (c2 B Bt Bl : Nat) (w : World) (hs : RInts w B A2 left) (hl : left.length ≤ 1000)
    (hp : ∀ d ∈ left, Calls Try.prog 87 #[.int .i64 d, .pointer (some ⟨Bt, 0, none⟩), .pointer (some ⟨Bl, 0, none⟩)] w fun e w' => e = .returned (.bool (p d)) ∧ w = w') :
    Calls Try.prog 86 #[.slice A2 left.length c2, .func (.func 87) #[] #[.pointer (some ⟨Bt, 0, none⟩), .pointer (some ⟨Bl, 0, none⟩)]] w
      fun e w' => e = .returned (.int .i64 (idxOr (left.findIdx? p))) ∧ w = w' := by
  have HP := Lib.hid hp
  have HS := Lib.hid hs
  clear hp hs
  go_enter Try.func86, Try.ntmps86
  go_wp2_with fail
  go_loopg [8] left.length (fun g i wx => ∃ j : Nat, j + g = left.length ∧ i = .int .i64 j ∧ Hid ((left.take j).findIdx? p = none) ∧ w = wx)
  case atStart => exact ⟨0, by omega, rfl, rfl, rfl⟩
  case round =>
    obtain ⟨j, hj, rfl, HF, rfl⟩ := hrel
    have HF2 := HF
    clear HF
    cases gk with
    | zero =>
      obtain rfl : j = left.length := by omega
      go_wp2_with fail
      go_ret
      refine ⟨ret_int ?_, rfl⟩
      have := HF2.out
      rw [List.take_length] at this
      rw [this]
      rfl
    | succ g =>
      obtain ⟨b, o, x, hA, hb, hx, hc⟩ := HS.out.at_ (k := j) (by omega)
      subst hA
      have hlt : j < left.length := by omega
      have HT2 := Lib.hid (show (left.take (j + 1)) = left.take j ++ [x] by rw [List.take_succ_eq_append_getElem hlt, (List.getElem?_eq_some_iff.1 hx).2])
      have HC := Lib.hid (HP.out x (List.mem_of_getElem? hx))
      have hjl : (j : Int) < (left.length : Int) := by omega
      have hll : (left.take j).length = j := by simp; omega
      have HLL := Lib.hid hll
      clear hx hll
      cases hpx : p x
      · have HPX := Lib.hid hpx
        clear hpx
        go_wp2_with fail
        refine HC.out.mono ?_
        rintro e w' ⟨rfl, rfl⟩
        rw [HPX.out]
        go_wp2_with fail
        go_roundg g
        case measure => omega
        case rel => exact ⟨j + 1, by omega, by go_num, (by show List.findIdx? _ _ = _; rw [HT2.out, List.findIdx?_append, HF2.out]; simp [HPX.out]), rfl⟩
      · have HPX := Lib.hid hpx
        clear hpx
        go_wp2_with fail
        refine HC.out.mono ?_
        rintro e w' ⟨rfl, rfl⟩
        rw [HPX.out]
        go_wp2_with fail
        go_ret
        refine ⟨ret_int ?_, rfl⟩
        have e : left = left.take (j + 1) ++ left.drop (j + 1) := (List.take_append_drop _ _).symm
        have e2 : left.findIdx? p = some j := by
          rw [e, HT2.out, List.findIdx?_append, List.findIdx?_append, HF2.out]
          simp [HPX.out, HLL.out]
        rw [e2]
        rfl

end Go.Proofs.Ytkkholagmjcgiaa

namespace Go.Proofs.Ytkkholagmjcgiaa
open Go.RowKit

/-- A row of integers of one's own, nil let in. -/
def OwnV (w : World) (v : Value) (zs : List Int) : Prop := w.ownsRow 0 3 1 v zs.length (zs.map (Value.int .i64))
theorem OwnV.nil_ (w : World) : OwnV w (.slice none 0 0) [] := ⟨by simp, .inl ⟨rfl, rfl⟩⟩
theorem OwnV.form {w : World} {v : Value} {zs : List Int} (h : OwnV w v zs) (hpos : 1 ≤ zs.length) : ∃ g k, v = .slice (some ⟨g, 0, none⟩) zs.length k ∧ OwnR w g k zs := by
  obtain ⟨g, k, e, _, ho⟩ := OwnR.of_own h hpos
  exact ⟨g, k, e, ho⟩
theorem OwnV.blk {w : World} {v : Value} {zs : List Int} (h : OwnV w v zs) : ∀ g, v.ownBlock = some g → g < w.heap.size ∧ ∃ cur, Box w g 3 cur := by
  intro g hg
  rcases h.2 with ⟨rfl, _⟩ | ⟨g', cap, cur, rfl, _, hh, _⟩
  · cases hg
  · have : g' = g := by simpa [Value.ownBlock] using hg
    subst this
    exact ⟨Box.lt hh, cur, hh⟩
theorem OwnV.ne_box {w : World} {v : Value} {zs : List Int} (h : OwnV w v zs) {g : Nat} {t : TypeId} {cs : Array Value} (hb : Box w g t cs) (hne : 3 ≠ t) : v.ownBlock ≠ some g := fun e => by
  obtain ⟨_, cur, hx⟩ := OwnV.blk h g e
  exact hx.ne hb hne rfl
theorem OwnV.same {w w' : World} {v : Value} {zs : List Int} (h : OwnV w v zs) (hs : ∀ g, v.ownBlock = some g → w'.heap[g]? = w.heap[g]?) : OwnV w' v zs := by
  rcases h.2 with ⟨e1, hn⟩ | ⟨g, cap, cur, e1, hb, hh, h1, h2, h3, h4⟩
  · exact ⟨h.1, .inl ⟨e1, hn⟩⟩
  · exact ⟨h.1, .inr ⟨g, cap, cur, e1, hb, (hs g (by rw [e1]; rfl)).trans hh, h1, h2, h3, h4⟩⟩

/-- The results of a function that returns a temporary and what a variable holds. -/
theorem res_tmp_cell {fn : Func} {u p : Tmp} (h : fn.results = #[.tmp u, .cell p 36]) (tmps : Array Value) (w : World) (g : Nat) (v : Value)
    (hp : tmps.getD p undef = .pointer (some ⟨g, 0, none⟩)) (hg : w.cell? ⟨g, 0, none⟩ = some v) : (results fn tmps).run Try.prog w = .ok (.tuple #[tmps.getD u undef, v]) w := by
  have hp' : tmps[p]?.getD undef = .pointer (some ⟨g, 0, none⟩) := by simpa using hp
  have hl : (loadVar 36 ⟨g, 0, none⟩).run Try.prog w = .ok v w := by
    simp [loadVar, isAgg, go_sem, hg]
  simp [results, h, hp', asAddr, hl]

theorem evK_snoc (k : Nat) : evK (k + 1) = evK k ++ [(k : Int)] := by simp [evK, List.range_succ]

/-- The append of one integer to such a row. -/
theorem wpList_app0 (w : World) {ops : Array Oper} {rest : List Oper} {o : Oper} {a : Act} {Q : Exit → Act → World → Prop} (hg : o.guard = none) (s x : Operand)
    (hop : o.op = Op.call { callee := Callee.builtin Builtin.append, args := #[s, x], argTypes := #[36, 36] }) {v : Value} {zs : List Int} (h : OwnV w v zs) (hs : a.eval s = v)
    (ad : Nat) (c : Nat) (y : Int) (hx : a.eval x = .slice (some ⟨ad, 0, none⟩) 1 c) (hc : w.cell? ⟨ad, 0, none⟩ = some (.int .i64 y)) (hl : zs.length ≤ 1000000)
    (hK : ∀ (g k : Nat) (w' : World), OwnR w' g k (zs ++ [y]) → w.grownBy w' v.ownBlock → (v.ownBlock = some g ∨ g = w.heap.size) → wpList Try.prog ops Q rest (a.put o.dst (.slice (some ⟨g, 0, none⟩) (zs.length + 1) k)) w') :
    wpList Try.prog ops Q (o :: rest) a w := by
  obtain ⟨i0, hi, hz0, hz1, hz2⟩ := info_parts Try.info3
  have hmap : zs.map (Value.int .i64) ++ [Value.int .i64 y] = (zs ++ [y]).map (Value.int .i64) := by simp
  have hnew : ∀ (j : Nat) (u : Value), [Value.int .i64 y][j]? = some u → w.cell? ((⟨ad, 0, none⟩ : Addr).add j) = some u := fun j u hu => by
    cases j with
    | zero => simp at hu; subst hu; simpa [Addr.add] using hc
    | succ j => simp at hu
  have hb8 := len8 (show zs.length ≤ 1000000 from hl)
  refine wpList_append_own_at w hg s x 36 hop 0 3 i0 (.int .i64 0) 1 8 Try.underlying36 hi hz0 hz1 hz2 rfl (by omega) v zs.length (zs.map (Value.int .i64)) hs h ⟨ad, 0, none⟩ 1 c [.int .i64 y] hx rfl hnew (by simp [Value.oneCell']) (by unfold maxLen; omega) (by omega) (Nat.zero_le _) fun v' w' h1 h2 _ h4 => ?_
  rw [hmap] at h1
  obtain ⟨g, k, e, _, ho⟩ := OwnR.of_own h1 (by simp)
  subst e
  have := hK g k w' ho h2 (by
    rcases h4 with h4 | h4
    · exact .inl h4.symm
    · exact .inr (by simpa [Value.ownBlock] using h4))
  simpa using this

set_option maxRecDepth 100000 in
set_option maxHeartbeats 2000000 in
theorem rank_fresh (A : Option Addr) (t : List (List Bool)) (c n : Nat) (w : World) (ht : RTab w w.heap.size A t) (hq : Square t n) (hn1 : 1 ≤ n) (hn : n ≤ 1000) :
    Calls Try.prog 63 #[.slice A n c] w fun e w' => ∃ v1 v2, e = .returned (.tuple #[v1, v2]) ∧ OwnV w' v1 (rankL t n [] (evK n)).1 ∧ OwnV w' v2 (rankL t n [] (evK n)).2 ∧ Below w.heap.size w w' ∧ ∀ b, v1.ownBlock = some b → w.heap.size ≤ b := by
  have HT := Lib.hid ht
  have HQ := Lib.hid hq
  clear ht hq
  go_enter Try.func63, Try.ntmps63
  go_wp2_with fail
  obtain ⟨w0, hw0⟩ : ∃ w0, (w.alloc (Obj.cells #[Value.slice A n c] 37)).alloc (Obj.cells #[Value.slice none 0 0] 36) = w0 := ⟨_, rfl⟩
  have hB0 : Below w.heap.size w w0 := by rw [← hw0]; exact ((Below.refl _ w).alloc (Nat.le_refl _) _).alloc (by simp) _
  have hbt0 : Box w0 w.heap.size 37 #[.slice A n c] := by rw [← hw0]; exact (Box.new w _ _).alloc _
  have hbl0 : Box w0 (w.heap.size + 1) 36 #[.slice none 0 0] := by
    rw [← hw0]
    have := Box.new (w.alloc (Obj.cells #[Value.slice A n c] 37)) 36 #[.slice none 0 0]
    simpa using this
  rw [hw0]
  clear hw0
  go_loopg [8] n (fun g i wx => ∃ (k : Nat) (v : Value), k + g = n ∧ i = .int .i64 k ∧ Box wx w.heap.size 37 #[.slice A n c] ∧ Box wx (w.heap.size + 1) 36 #[v] ∧ OwnV wx v (evK k) ∧ (∀ b, v.ownBlock = some b → w.heap.size ≤ b) ∧ Below w.heap.size w wx)
  case atStart => exact ⟨0, _, by omega, rfl, hbt0, hbl0, OwnV.nil_ _, (fun b hb => by cases hb), hB0⟩
  case round =>
    clear hbt0 hbl0 hB0
    obtain ⟨k, v, hkg, rfl, hbt, hbl, hv, hvb, hB⟩ := hrel
    have ct := hbt.cell 0
    have cl := hbl.cell 0
    have fl := hbl.free 0
    simp only [List.getElem?_toArray, List.getElem?_cons_zero] at ct cl
    have ltl := hbl.lt
    cases gk with
    | succ g =>
      have hki : (k : Int) < (n : Int) := by omega
      have hcn : ∀ (o : Value), (wr.alloc (Obj.cells #[o] 3)).cell? ⟨wr.heap.size, 0, none⟩ = some o := fun o => (Box.new wr 3 #[o]).cell 0
      have HCN := Lib.hid hcn
      have hlk : (evK k).length = k := by simp [evK]
      have HV := Lib.hid hv
      have HLK := Lib.hid hlk
      have HBL := Lib.hid hbl
      clear hcn hlk hv hbl
      go_wp2_with (first
        | (at_builtin; refine wpList_app0 _ rfl _ _ rfl (World.ownsRow.alloc HV.out _) rfl wr.heap.size 1 k rfl (HCN.out _) (by rw [HLK.out]; omega) ?_; intro gn kn w4 hown4 hg4 hat4; have hb4 : Box w4 (w.heap.size + 1) 36 #[v] := (HBL.out.alloc _).grown hg4 (fun e => HV.out.ne_box HBL.out (by decide) e.symm); have cl4 := hb4.cell 0; have fl4 := hb4.free 0; simp only [List.getElem?_toArray, List.getElem?_cons_zero] at cl4))
      have hne : w.heap.size ≠ w.heap.size + 1 := by omega
      have hs4 := hg4.size
      have hsz : (wr.alloc (Obj.cells #[Value.int .i64 (k : Int)] 3)).heap.size = wr.heap.size + 1 := by simp
      have hgnb : w.heap.size ≤ gn := by
        rcases hat4 with h1 | h1
        · exact hvb _ h1
        · have := hB.size
          rw [h1, hsz]
          omega
      have HR := Lib.hid (show Box (w4.setCell ⟨w.heap.size + 1, 0, none⟩ (.slice (some ⟨gn, 0, none⟩) ((evK k).length + 1) kn)) w.heap.size 37 #[.slice A n c] from
        ((hbt.alloc _).grown hg4 (fun e => HV.out.ne_box hbt (by decide) e.symm)).far hne _)
      have HL := Lib.hid (hb4.put 0 (.slice (some ⟨gn, 0, none⟩) ((evK k).length + 1) kn))
      have HO := Lib.hid (show OwnV (w4.setCell ⟨w.heap.size + 1, 0, none⟩ (.slice (some ⟨gn, 0, none⟩) ((evK k).length + 1) kn)) (.slice (some ⟨gn, 0, none⟩) ((evK k).length + 1) kn) (evK (k + 1)) from by
        have h1 := hown4.far (p := ⟨w.heap.size + 1, 0, none⟩) (hown4.ne_box hb4 (by decide)) (.slice (some ⟨gn, 0, none⟩) ((evK k).length + 1) kn)
        rw [← evK_snoc] at h1
        unfold OwnV
        have h2 : (evK (k + 1)).length = (evK k).length + 1 := by rw [evK_snoc]; simp
        rw [h2]
        unfold OwnR at h1
        rw [h2] at h1
        exact h1)
      have HB4 := Lib.hid (show Below w.heap.size w (w4.setCell ⟨w.heap.size + 1, 0, none⟩ (.slice (some ⟨gn, 0, none⟩) ((evK k).length + 1) kn)) from
        ((hB.alloc hB.size _).grown hg4 (by have := hB.size; rw [hsz]; omega) (fun j hj => hvb _ hj)).setCell (p := ⟨w.heap.size + 1, 0, none⟩) (by show w.heap.size ≤ w.heap.size + 1; omega) _)
      clear hat4 hg4 hown4 hb4
      go_roundg g
      case measure => omega
      case rel => exact ⟨k + 1, _, by omega, by go_num, HR.out, HL.out, HO.out, (fun b hb => by have e : gn = b := (by simpa [Value.ownBlock] using hb); omega), HB4.out⟩
    | zero =>
      obtain rfl : k = n := by omega
      obtain ⟨gl, kl, rfl, hol⟩ := hv.form (by simp [evK]; omega)
      have hgl := hvb gl rfl
      have HB := Lib.hid hB
      have HBT := Lib.hid hbt
      have HBL := Lib.hid hbl
      have HOL := Lib.hid hol
      have hlk : (evK k).length = k := by simp [evK]
      have HLK := Lib.hid hlk
      clear hv hvb hB hbt hbl hol hlk ct cl fl
      go_wp2_with fail
      go_loopg [2] k (fun g rv wx => ∃ (ranked left : List Int) (gl kl : Nat), left.length = g ∧ Hid (rankL t g ranked left = rankL t k [] (evK k)) ∧ Hid (Inds left k) ∧ Box wx w.heap.size 37 #[.slice A k c] ∧ Box wx (w.heap.size + 1) 36 #[.slice (some ⟨gl, 0, none⟩) left.length kl] ∧
        OwnR wx gl kl left ∧ OwnV wx rv ranked ∧ rv.ownBlock ≠ some gl ∧ w.heap.size ≤ gl ∧ (∀ b, rv.ownBlock = some b → w.heap.size ≤ b) ∧ Below w.heap.size w wx ∧ ranked.length + g = k)
      case atStart => exact ⟨[], evK k, gl, kl, HLK.out, rfl, (fun x hx => by have := mem_evK.1 hx; omega), HBT.out, HBL.out, HOL.out, OwnV.nil_ _, (by intro e; cases e), hgl, (fun b hb => by cases hb), HB.out, by simp⟩
      case round =>
        clear hgl
        obtain ⟨ranked, left, gl, kl, hll, HRK, HIN, hbt, hbl, hol, hrv, hrg, hgl, hrb, hB, hrl⟩ := hrel
        have HK1 := HRK
        have HI1 := HIN
        clear HRK HIN
        have hra : RTab wr wr.heap.size A t := (HT.out.below hB).more hB.size
        have HIF := Lib.hid (IndexFunc_rank (fun d => decide (winnerL t left d < 0)) (some ⟨gl, 0, none⟩) left kl wr.heap.size w.heap.size (w.heap.size + 1) wr hol.reads (by omega) (fun d hd => rank1_any A (some ⟨gl, 0, none⟩) t left d c kl k wr.heap.size _ _ wr hbt hbl hra hol.reads HQ.out HI1.out (HI1.out d hd) hn (by omega)))
        have ct := hbt.cell 0
        have cl := hbl.cell 0
        have fl := hbl.free 0
        simp only [List.getElem?_toArray, List.getElem?_cons_zero] at ct cl
        have ltl := hbl.lt
        have HB := Lib.hid hB
        have HBT := Lib.hid hbt
        have HBL := Lib.hid hbl
        have HOL := Lib.hid hol
        have HRV := Lib.hid hrv
        have HRB := Lib.hid hrb
        have HRG := Lib.hid hrg
        cases hpk : pick t left with
        | none =>
          have HPK := Lib.hid (show idxOr (left.findIdx? fun d => decide (winnerL t left d < 0)) = -1 by have : left.findIdx? (fun d => decide (winnerL t left d < 0)) = none := hpk; rw [this]; rfl)
          have HEND := Lib.hid (show rankL t k [] (evK k) = (ranked, left) by
            rw [← HK1.out]
            cases gk with
            | zero => rfl
            | succ g => simp only [rankL, hpk])
          clear hpk hll hra hbt hbl hol hrv hrb hrg hB hrl
          go_wp2_with fail
          refine HIF.out.mono ?_
          rintro e w' ⟨rfl, rfl⟩
          rw [HPK.out]
          go_wp2_with fail
          go_region
          all_goals
            go_wp2_with fail
            refine bodyPost_ret (res_tmp_cell rfl _ _ (w.heap.size + 1) (.slice (some ⟨gl, 0, none⟩) left.length kl) rfl ?_) rfl ?_
            · exact ((HBL.out.put 0 _).drewN 1).cell 0
            · refine ⟨_, _, rfl, ?_, ?_, ?_, HRB.out⟩
              · rw [HEND.out]
                exact OwnV.same HRV.out (fun b hb => (Below.heap_setCell wr ⟨w.heap.size + 1, 0, none⟩ _ b (fun e => HRV.out.ne_box HBL.out (by decide) (hb.trans (congrArg some e)))))
              · rw [HEND.out]
                exact OwnR.far HOL.out (p := ⟨w.heap.size + 1, 0, none⟩) (HOL.out.ne_box HBL.out (by decide)) _
              · exact (HB.out.setCell (p := ⟨w.heap.size + 1, 0, none⟩) (by show w.heap.size ≤ w.heap.size + 1; omega) _).drew
        | some i =>
          obtain ⟨hil, _⟩ := List.findIdx?_eq_some_iff_getElem.1 hpk
          obtain ⟨g, rfl⟩ : ∃ g, gk = g + 1 := ⟨gk - 1, by omega⟩
          have hx : left[i]? = some left[i] := List.getElem?_eq_getElem hil
          obtain ⟨x, hxe⟩ : ∃ x, left[i] = x := ⟨_, rfl⟩
          rw [hxe] at hx
          have cx := hol.at_ hx
          have HX := Lib.hid hx
          have HPK := Lib.hid (show idxOr (left.findIdx? fun d => decide (winnerL t left d < 0)) = (i : Int) by have : left.findIdx? (fun d => decide (winnerL t left d < 0)) = some i := hpk; rw [this]; rfl)
          have HNX := Lib.hid (show rankL t g (ranked ++ [x]) (left.eraseIdx i) = rankL t k [] (evK k) by
            rw [← HK1.out]
            have e : left.getD i 0 = x := by simp [List.getD, hx]
            simp only [rankL, hpk, e])
          have hcn : ∀ (o : Value), (wr.alloc (Obj.cells #[o] 3)).cell? ⟨wr.heap.size, 0, none⟩ = some o := fun o => (Box.new wr 3 #[o]).cell 0
          have HCN := Lib.hid hcn
          have hii : (i : Int) < (left.length : Int) := by omega
          have HLL := Lib.hid hll
          have HRL := Lib.hid hrl
          have hle : left.length ≤ 1000 := by omega
          have hrle : ranked.length ≤ 1000 := by omega
          have HIL := Lib.hid hil
          clear hpk hra hbt hbl hol hrv hrb hrg hB hx hxe hcn hll hrl hkg
          go_wp2_with fail
          refine HIF.out.mono ?_
          rintro e w' ⟨rfl, rfl⟩
          rw [HPK.out]
          go_wp2_with (first
            | (at_builtin; refine wpList_app0 _ rfl _ _ rfl (World.ownsRow.alloc HRV.out _) rfl wr.heap.size 1 x rfl (HCN.out _) (by omega) ?_; intro gn kn w4 hown4 hg4 hat4; have hb4 : Box w4 (w.heap.size + 1) 36 #[.slice (some ⟨gl, 0, none⟩) left.length kl] := (HBL.out.alloc _).grown hg4 (fun e => HRV.out.ne_box HBL.out (by decide) e.symm); have cl4 := hb4.cell 0; have fl4 := hb4.free 0; simp only [List.getElem?_toArray, List.getElem?_cons_zero] at cl4))
          have hol4 : OwnR w4 gl kl left := OwnR.grown (OwnR.alloc HOL.out (Obj.cells #[Value.int .i64 x] 3)) hg4 (fun e => HRG.out e.symm)
          have HDE := Lib.hid (Delete_own gl kl i left w4 hol4 HIL.out)
          refine HDE.out.mono ?_
          rintro e w5 ⟨rfl, hde, hgw⟩
          have hneg : gl ≠ w.heap.size + 1 := hol4.ne_box hb4 (by decide)
          have hb5 := hb4.grown hgw (by intro e; exact hneg (Option.some.inj e).symm)
          have cl5 := hb5.cell 0
          have fl5 := hb5.free 0
          simp only [List.getElem?_toArray, List.getElem?_cons_zero] at cl5
          have HB5 := Lib.hid hb5
          have HDE2 := Lib.hid hde
          have HGW := Lib.hid hgw
          have HG4 := Lib.hid hg4
          have HOWN4 := Lib.hid hown4
          have HAT4 := Lib.hid hat4
          clear hb5 hde hgw hg4 hown4 hol4 hb4 cl4 fl4 hat4 cx
          go_wp2_with fail
          go_roundg g
          case measure => omega
          case rel =>
            have hlt : gl < wr.heap.size := HOL.out.lt
            have hsz : (wr.alloc (Obj.cells #[Value.int .i64 x] 3)).heap.size = wr.heap.size + 1 := by simp
            have hwl := HB.out.size
            have hgnb : w.heap.size ≤ gn := by
              rcases HAT4.out with h1 | h1
              · exact HRB.out _ h1
              · rw [h1, hsz]; omega
            have hgne : gn ≠ gl := by
              rcases HAT4.out with h1 | h1
              · exact fun e => HRG.out (by rw [h1, e])
              · rw [h1, hsz]; omega
            have hb4 : Box w4 (w.heap.size + 1) 36 #[.slice (some ⟨gl, 0, none⟩) left.length kl] := (HBL.out.alloc _).grown HG4.out (fun e => HRV.out.ne_box HBL.out (by decide) e.symm)
            have hbt4 : Box w4 w.heap.size 37 #[.slice A k c] := (HBT.out.alloc _).grown HG4.out (fun e => HRV.out.ne_box HBT.out (by decide) e.symm)
            have hnt : gl ≠ w.heap.size := HOL.out.ne_box HBT.out (by decide)
            have hel : (left.eraseIdx i).length = left.length - 1 := by rw [List.length_eraseIdx, if_pos HIL.out]
            have hll := HLL.out
            have hrl := HRL.out
            refine ⟨ranked ++ [x], left.eraseIdx i, gl, kl, by omega, HNX, ?_, ?_, ?_, ?_, ?_, ?_, hgl, ?_, ?_, by simp; omega⟩
            · exact fun y hy => HI1.out y (List.mem_of_mem_eraseIdx hy)
            · exact (hbt4.grown HGW.out (fun e => hnt (Option.some.inj e).symm)).far (by show w.heap.size ≠ w.heap.size + 1; omega) _
            · rw [hel]
              exact HB5.out.put 0 _
            · exact OwnR.far HDE2.out (p := ⟨w.heap.size + 1, 0, none⟩) (HOL.out.ne_box HBL.out (by decide)) _
            · have h1 := OwnR.far (HOWN4.out.grown HGW.out (fun e => hgne (Option.some.inj e))) (p := ⟨w.heap.size + 1, 0, none⟩) (HOWN4.out.ne_box hb4 (by decide)) (.slice (some ⟨gl, 0, none⟩) (left.length - 1) kl)
              have h2 : (ranked ++ [x]).length = ranked.length + 1 := by simp
              unfold OwnR at h1
              rw [h2] at h1
              unfold OwnV
              rw [h2]
              exact h1
            · exact fun e => hgne (Option.some.inj e)
            · exact fun b hb => by have e : gn = b := (by simpa [Value.ownBlock] using hb); omega
            · exact (((HB.out.alloc HB.out.size _).grown HG4.out (by rw [hsz]; omega) (fun j hj => HRB.out _ hj)).grown HGW.out (by have := HG4.out.size; omega) (fun j hj => by have := Option.some.inj hj; omega)).setCell (p := ⟨w.heap.size + 1, 0, none⟩) (by show w.heap.size ≤ w.heap.size + 1; omega) _

theorem rank_any (A : Option Addr) (t : List (List Bool)) (c n : Nat) (w : World) (ht : RTab w w.heap.size A t) (hq : Square t n) (hn1 : 1 ≤ n) (hn : n ≤ 1000) :
    Calls Try.prog 63 #[.slice A n c] w fun e w' => ∃ v1 v2, e = .returned (.tuple #[v1, v2]) ∧ OwnV w' v1 (rankL t n [] (evK n)).1 ∧ OwnV w' v2 (rankL t n [] (evK n)).2 ∧ Below w.heap.size w w' :=
  (rank_fresh A t c n w ht hq hn1 hn).mono fun _ _ ⟨v1, v2, h1, h2, h3, h4, _⟩ => ⟨v1, v2, h1, h2, h3, h4⟩

end Go.Proofs.Ytkkholagmjcgiaa
