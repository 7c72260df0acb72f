/- A map from positions to jumps. · Going back by the last jumps: followBack of package peg. -/
import Derived.Test.YthbhengcinkepaaMap
import Derived.Test.YthbhengcinkepaaBoxes
import Derived.Test.YthbhengcinkepaaGames
import Derived.Maps.OwnIn
import Derived.Test.YthbhengcinkepaaPg10
import Derived.Test.YthbhengcinkepaaShelf6
import Derived.Test.YthbhengcinkepaaPg7
namespace Go.Proofs.Ythbhengcinkepaa
open Go.RowKit Go.Maps Lamp

/-- How a jump reads as an element of a map. -/
def elemJ : Value → Option (DataW Tri × List MemPlace)
  | .agg cs => match cs.toList with
    | [.int .i64 a, .int .i64 b, .int .i64 c] => some (.held (a, b, c), [])
    | _ => none
  | _ => none
theorem elemJ_mk (a b c : Int) : elemJ (.agg #[.int .i64 a, .int .i64 b, .int .i64 c]) = some (.held (a, b, c), []) := by
  simp only [elemJ]
theorem elemJ_inv {v : Value} {z : DataW Tri × List MemPlace} (h : elemJ v = some z) : ∃ a b c, v = .agg #[.int .i64 a, .int .i64 b, .int .i64 c] ∧ z = (.held (a, b, c), []) := by
  unfold elemJ at h
  split at h
  · rename_i cs
    split at h
    · rename_i a b c e
      injection h with h
      have e2 : cs = #[Value.int .i64 a, .int .i64 b, .int .i64 c] := by rw [← Array.toList_inj, e]
      exact ⟨a, b, c, by rw [e2], h.symm⟩
    · cases h
  · cases h
theorem zeroJ (w : World) : (zeroValue 105).run Try.prog w = .ok (.agg #[.int .i64 0, .int .i64 0, .int .i64 0]) w := by kernel_rfl

/-- Block b is a map of at most n entries that reads as f, at positions. -/
def MapJ (w : World) (b n : Nat) (f : Nat → Tri) : Prop :=
  ∃ D : DataW Tri, w.ownsMap Try.prog 3 elemJ b n D ∧ ∀ x : Nat, x < 65536 → D.atKey (.int .i64 x) (.held ((0 : Int), (0 : Int), (0 : Int))) = .held (f x)
theorem w64N {x : Nat} (h : x < 65536) : W64 (x : Int) := by unfold W64; omega

section
variable {w w' : World} {b n : Nat} {f : Nat → Tri}
theorem MapJ.lt (h : MapJ w b n f) : b < w.heap.size := by
  obtain ⟨D, h, _⟩ := h; exact h.lt
theorem MapJ.kept {row : Option Nat} (h : MapJ w b n f) (hg : w.grownBy w' row) (hne : some b ≠ row) : MapJ w' b n f := by
  obtain ⟨D, h, h2⟩ := h; exact ⟨D, h.kept hg hne, h2⟩
theorem MapJ.same (h : MapJ w b n f) (he : w'.heap[b]? = w.heap[b]?) : MapJ w' b n f := by
  obtain ⟨D, ⟨es, clock, h1, h2⟩, h3⟩ := h
  exact ⟨D, ⟨es, clock, he.trans h1, h2⟩, h3⟩
theorem MapJ.turn {X : Nat → Prop} (h : MapJ w b n f) (hT : Turn X w w') (hx : ¬ X b) : MapJ w' b n f := h.same (hT.2 b h.lt hx)
theorem MapJ.below {B : Nat} (h : MapJ w b n f) (hb : Below B w w') (hB : b < B) : MapJ w' b n f := h.same (hb.block b hB)
theorem MapJ.alloc (h : MapJ w b n f) (o : Obj) : MapJ (w.alloc o) b n f := by
  obtain ⟨D, h, h2⟩ := h; exact ⟨D, h.alloc o, h2⟩
theorem MapJ.new (w : World) : MapJ (w.alloc (.map #[] 0)) w.heap.size 0 (fun _ => (0, 0, 0)) :=
  ⟨.map [], World.ownsMap_made _ _ _ _, fun _ _ => rfl⟩
theorem MapJ.congr {g : Nat → Tri} (h : MapJ w b n f) (hf : ∀ x, x < 65536 → f x = g x) : MapJ w b n g := by
  obtain ⟨D, h, h1⟩ := h
  exact ⟨D, h, fun x hx => by rw [h1 x hx, hf x hx]⟩
theorem MapJ.run (h : MapJ w b n f) {y : Nat} (hy : y < 65536) : (Instr.lookup 111 (.map (some b)) (.int .i64 y) false).run Try.prog w = .ok (.agg #[.int .i64 (f y).1, .int .i64 (f y).2.1, .int .i64 (f y).2.2]) w := by
  obtain ⟨D, h, h1⟩ := h
  obtain ⟨v, ps, hrun, hv⟩ := h.lookup lawI Try.underlying111 (zeroJ _) (zd := .held ((0 : Int), (0 : Int), (0 : Int))) (zp := []) (elemJ_mk 0 0 0) (keyI (w64N hy))
  obtain ⟨a, b, c, rfl, hx⟩ := elemJ_inv hv
  have e := h1 y hy
  have hx1 := congrArg Prod.fst hx
  have e3 := hx1.symm.trans e
  have e4 : ((a, b, c) : Tri) = f y := by simpa only [DataW.held.injEq] using e3
  rw [← e4]
  exact hrun
end

/-- The function with one value more. -/
def updJ (f : Nat → Tri) (x : Nat) (j : Tri) : Nat → Tri := fun y => if y = x then j else f y

/-- The store m[k] = j, within a fence. -/
theorem wpListIn_storeJ {F : Fence} {nF : Nat} (w : World) {ops : Array Oper} {rest : List Oper} {o : Oper} {a : Act} {Q : Exit → Act → World → Prop} {b n : Nat} {f : Nat → Tri} (hg : o.guard = none) (m x v : Operand) (hop : o.op = Op.mapUpdate 111 m x v) (hm : a.eval m = .map (some b)) (h : MapJ w b n f) (hn : n < 1000000000) (y : Nat) (j : Tri) (hx : a.eval x = .int .i64 y) (hv : a.eval v = .agg #[.int .i64 j.1, .int .i64 j.2.1, .int .i64 j.2.2]) (hy : y < 65536)
    (hK : ∀ w', MapJ w' b (n + 1) (updJ f y j) → w.grownBy w' (some b) → wpListIn F nF Try.prog ops Q rest (a.put o.dst undef) w') : wpListIn F nF Try.prog ops Q (o :: rest) a w := by
  obtain ⟨D, h, h1⟩ := h
  refine wpListIn_mapUpdate_own w hg m x v 111 hop 3 105 lawI Try.underlying111 _ b n D hm h (by unfold maxLen; omega) _ _ _ hx hv (keyI (w64N hy)) (.held j) [] (elemJ_mk _ _ _) fun w1 hown1 hgrow1 => ?_
  have hD : IsMap D := (h.canon lawI).elim fun es he => ⟨es, he.1⟩
  refine hK w1 ⟨_, hown1, fun z hz => ?_⟩ hgrow1
  by_cases e : z = y
  · subst e
    rw [Maps.atKey_put_same hD (by trivial)]
    simp [updJ]
  · rw [Maps.atKey_put_other (fun h => e (by injection h with _ h; omega)), h1 z hz]
    simp [updJ, e]
end Go.Proofs.Ythbhengcinkepaa

namespace Go.Proofs.Ythbhengcinkepaa
open Go.RowKit Lamp Go.Sort Go.Shelf

theorem Try.lineAgg (w : World) : (isAgg 30).run Try.prog w = .ok true w := by kernel_rfl
theorem Try.lineSize (w : World) : (Go.sizeOf 30).run Try.prog w = .ok 3 w := by kernel_rfl
theorem grownBy_putK {w : World} {g n : Nat} (d : Array Tri) : w.grownBy (putRowK encT 3 (Go.Sort.ahead w n) g 0 d) (some g) := by
  unfold putRowK
  refine ⟨rfl, rfl, rfl, by simp, fun k hk hne => ?_⟩
  have : g ≠ k := fun e => hne (by rw [e])
  simp [putRow, mapBlock, Sort.ahead, Array.getElem?_modify, this]

/-- The reversal of a row of lines of one's own. -/
theorem Reverse_any (base : Nat) (v : Value) (l : List Tri) (w : World) (h : OwnT 30 w base v l) (hl : l.length ≤ 1000000) :
    Calls Try.prog 109 #[v] w fun e w' => e = .returned (.tuple #[]) ∧ (∃ A c, v = .slice A l.length c ∧ RTri w' w'.heap.size A l.reverse ∧ ∀ b o, A = some ⟨b, o, none⟩ → base ≤ b) ∧ Below base w w' := by
  rcases h.2 with ⟨rfl, h1⟩ | ⟨g, cap, cur, rfl, hb, hh, h2, h3, h4⟩
  · have hnil : l = [] := List.length_eq_zero_iff.1 h1
    subst hnil
    have hcon := AnyQ.slices_Reverse_empty Try.revL none 0 w
    change Calls Try.prog 109 _ _ _ at hcon
    refine hcon.mono ?_
    rintro e w' ⟨rfl, rfl⟩
    exact ⟨rfl, ⟨none, 0, rfl, RTri.nil_, fun b o e => by cases e⟩, Below.refl _ _⟩
  · have hbx : Box w g 30 cur := hh
    have hH : HoldsK encT 3 w g 0 l.toArray := by
      intro j hj
      rw [size_flatK] at hj
      have hj : j < l.length * 3 := by simpa using hj
      refine ⟨?_, hbx.free _⟩
      rw [get_flatK _ _ _ _ (by simpa using hj)]
      obtain ⟨A, c, e1, hr⟩ := h.reads
      cases e1
      have h5 := triV_cell hj
      rw [encT_at _ (Nat.mod_lt j (by decide))] at h5
      obtain ⟨b, o, e2, _, h6⟩ := hr j _ h5
      cases e2
      rw [h6]
      have hi : j / 3 < l.length := by omega
      simp [List.getD_eq_getElem?_getD, hi]
    have hcon := AnyQ.slices_Reverse Try.revL 3 Try.lineAgg Try.lineSize encT encT_len (fun x v hv => by simp [encT] at hv; rcases hv with rfl | rfl | rfl <;> rfl) g 0 cap l.toArray w hH (by simp; omega)
    change Calls Try.prog 109 _ _ _ at hcon
    rw [List.size_toArray] at hcon
    refine hcon.mono ?_
    rintro e w' ⟨rfl, n, rfl⟩
    rw [show l.toArray.reverse = l.reverse.toArray by simp]
    obtain ⟨s, hs⟩ : ∃ s, l.reverse = s := ⟨_, rfl⟩
    have hsl : s.length = l.length := by rw [← hs, List.length_reverse]
    rw [hs]
    have hH2 : HoldsK encT 3 (putRowK encT 3 (Go.Sort.ahead w n) g 0 s.toArray) g 0 s.toArray :=
      holdsK_putRowK _ _ _ _ _ l.toArray _ (holdsK_ahead _ _ _ n _ _ _ hH) (by simp [hsl])
    have hg : w.grownBy (putRowK encT 3 (Go.Sort.ahead w n) g 0 s.toArray) (some g) := grownBy_putK s.toArray
    refine ⟨rfl, ⟨some ⟨g, 0, none⟩, cap, rfl, fun j u hu => ?_, fun b o e => by cases e; exact hb⟩, (Below.refl base w).grown hg (by have := hbx.lt; omega) (fun k e => by cases e; exact hb)⟩
    have hj : j < s.length * 3 := by
      have := (List.getElem?_eq_some_iff.1 hu).1
      rwa [triV_len] at this
    have h7 := (hH2 j (by rw [size_flatK]; simpa using hj)).1
    rw [get_flatK _ _ _ _ (by simpa using hj)] at h7
    refine ⟨g, 0, rfl, Nat.lt_of_lt_of_le hbx.lt hg.size, ?_⟩
    rw [h7, ← hu, triV_cell hj, encT_at _ (Nat.mod_lt j (by decide))]
    have hi : j / 3 < s.length := by omega
    simp [List.getD_eq_getElem?_getD, hi]

theorem lastQ_first {all : List Tri} {p n : Nat} {Q : List (Nat × Tri)} (hL : Linked all p Q) (hok : ∀ j ∈ all, TriOk n j) {k : Nat} {e : Nat × Tri} (he : Q[k]? = some e) (hz : e.2 = (0, 0, 0)) : e.1 = p := by
  rcases hL k e he with ⟨_, rfl⟩ | ⟨_, _, _, _, _, h, _⟩
  · rfl
  · exact absurd hz (hok _ h).nonzero
theorem from_int {x1 x2 x3 : Int} {a b c p v : Nat} (w : World) (h1 : x1 = (a : Int)) (h2 : x2 = (b : Int)) (h3 : x3 = (c : Int)) (ha : a < 16) (hb : b < 16) (hc : c < 16) (hp : p < 65536) (hv : fromJ ((a : Int), (b : Int), (c : Int)) p = v) :
    Calls Try.prog 65 #[.agg #[.int .i64 x1, .int .i64 x2, .int .i64 x3], .int .i64 p] w fun e w' => e = .returned (.int .i64 (v : Int)) ∧ Below w.heap.size w w' := by
  subst h1 h2 h3
  exact from_of w ha hb hc hp hv

set_option maxRecDepth 100000 in
set_option maxHeartbeats 4000000 in
theorem followBack_any (b m n p q k0 : Nat) (j0 : Tri) (all : List Tri) (Q : List (Nat × Tri)) (w : World) (hn : n ≤ 16) (hok : ∀ j ∈ all, TriOk n j) (hL : Linked all p Q) (hO : Once Q) (hq16 : ∀ e ∈ Q, e.1 < 65536) (hk : Q.length ≤ 65536) (hm : MapJ w b m (lastQ Q)) (h0 : Q[k0]? = some (q, j0)) :
    Calls Try.prog 68 #[.map (some b), .int .i64 q] w fun e w' => ∃ A c g, e = .returned (.slice A g.length c) ∧ RTri w' w'.heap.size A g ∧ (∀ b o, A = some ⟨b, o, none⟩ → w.heap.size ≤ b) ∧ Game all p g q ∧ Below w.heap.size w w' := by
  have HM := Lib.hid hm
  have HL := Lib.hid hL
  have HO := Lib.hid hO
  have HK := Lib.hid hok
  have H16 := Lib.hid hq16
  have H0 := Lib.hid h0
  have hbl := hm.lt
  have hk0 : k0 < Q.length := (List.getElem?_eq_some_iff.1 h0).1
  clear hm hL hO hok hq16 h0
  go_enter Try.func68, Try.ntmps68
  go_wp2_with fail
  go_loopg [5, 1] k0 (fun gk sv qv wr => ∃ (y : Nat) (j : Tri) (G : List Tri) (v : Value), v = sv ∧ qv = .int .i64 y ∧ Hid (Q[gk]? = some (y, j)) ∧ Hid (OwnT 30 wr w.heap.size v G) ∧ Hid (Game all y G.reverse q) ∧ G.length + gk ≤ k0 ∧ Hid (Below w.heap.size w wr))
  case atStart => exact ⟨q, j0, [], _, rfl, rfl, H0, Lib.hid (OwnT.nil_ _ _ _), Lib.hid (.nil _), by simp, Lib.hid (Below.refl _ _)⟩
  case round =>
    obtain ⟨y, j, G, v, rfl, rfl, HY1, HG1, HA1, hlen, HB1⟩ := hrel
    have HY := HY1
    have HG := HG1
    have HA := HA1
    have HB := HB1
    clear HY1 HG1 HA1 HB1
    have hy16 := H16.out _ (List.mem_of_getElem? HY.out)
    have hrun := (HM.out.below HB.out hbl).run hy16
    have hlq : lastQ Q y = j := lastQ_at HO.out HY.out
    rw [hlq] at hrun
    have hbw : b < wr.heap.size := Nat.lt_of_lt_of_le hbl HB.out.size
    rcases HL.out gk _ HY.out with ⟨rfl, hye⟩ | ⟨k', u, j', hk', hu, hja, hcan, hfy⟩
    · have hz : j = (0, 0, 0) := congrArg Prod.snd hye
      have HYP := Lib.hid (show y = p from congrArg Prod.fst hye)
      subst hz
      simp only at hrun
      have HR := Lib.hid (Reverse_any w.heap.size v G (wr.alloc (Obj.cells #[Value.int .i64 0, Value.int .i64 0, Value.int .i64 0] 105)) (HG.out.alloc _) (by omega))
      have HB0 := Lib.hid (HB.out.alloc HB.out.size (Obj.cells #[Value.int .i64 0, Value.int .i64 0, Value.int .i64 0] 105))
      clear hye
      go_wp2_with fail
      refine HR.out.mono ?_
      rintro e w9 ⟨rfl, ⟨A, c, rfl, hrt, hab⟩, hb9⟩
      have HRT := Lib.hid hrt
      have HAB := Lib.hid hab
      have HB9 := Lib.hid (HB0.out.trans hb9)
      have HGA := Lib.hid (show Game all p G.reverse q by have := HA.out; rwa [HYP.out] at this)
      clear hrt hab hb9 HB0 HR HG
      go_wp2_with fail
      go_ret
      exact ⟨A, c, G.reverse, by rw [List.length_reverse]; rfl, HRT.out, HAB.out, HGA.out, HB9.out⟩
    · simp only at hk' hu hja hcan hfy
      obtain ⟨a1, a2, a3, rfl, ha1, ha2, ha3⟩ := (HK.out j hja).nat hn
      have HY16 := Lib.hid hy16
      simp only at hrun
      have HFY := Lib.hid hfy
      have HFB := Lib.hid (show fromJ ((a1 : Int), (a2 : Int), (a3 : Int)) y = u by rw [hfy, fromJ_back])
      have HJA := Lib.hid hja
      have HCAN := Lib.hid hcan
      have HU := Lib.hid hu
      have hne : (a1 : Int) ≠ (a2 : Int) := (HK.out _ hja).2.2.2.2.2.2.1
      clear hy16 hlq hfy hja hcan hu
      rcases Nat.eq_zero_or_pos a1 with h1 | h1
      · subst h1
        have h2 : ¬ (a2 : Int) = 0 := fun h => hne (by rw [h]; rfl)
        clear hne
        go_wp2_with fail
        refine (list_any 0 a2 a3 _).mono ?_
        rintro e w5 ⟨rfl, hb5⟩
        have hGa := HG.out.alloc (Obj.cells #[Value.int .i64 0, Value.int .i64 a2, Value.int .i64 a3] 105)
        have hsz0 : (wr.alloc (Obj.cells #[Value.int .i64 0, Value.int .i64 a2, Value.int .i64 a3] 105)).heap.size = wr.heap.size + 1 := by simp
        have HG5 := Lib.hid ((hGa.below hb5 (fun g e => (hGa.blk g e).2.1)).alloc (Obj.cells #[Value.int .i64 0, Value.int .i64 a2, Value.int .i64 a3] 30))
        have HLA := Lib.hid (((Box.new wr 105 #[Value.int .i64 0, Value.int .i64 a2, Value.int .i64 a3]).below hb5 (by omega)).alloc (Obj.cells #[Value.int .i64 0, Value.int .i64 a2, Value.int .i64 a3] 30))
        have hwr := HB.out.size
        have hs5 := hb5.size
        have HB5 := Lib.hid ((((HB.out.alloc HB.out.size (Obj.cells #[Value.int .i64 0, Value.int .i64 a2, Value.int .i64 a3] 105)).trans (hb5.mono (by omega)))).alloc (by omega) (Obj.cells #[Value.int .i64 0, Value.int .i64 a2, Value.int .i64 a3] 30))
        have hw5 : w.heap.size ≤ (w5.alloc (Obj.cells #[Value.int .i64 0, Value.int .i64 a2, Value.int .i64 a3] 30)).heap.size := by simp; omega
        have HBN := Lib.hid (Box.new w5 30 #[Value.int .i64 0, Value.int .i64 a2, Value.int .i64 a3])
        clear hGa hb5
        go_wp2_with (at_builtin; refine wpList_addT _ rfl _ _ rfl HG5.out rfl w5.heap.size 1 _ _ _ rfl HBN.out (by omega) hw5 ?_; intro v9 w9 hown9 hg9; have hl9 := HLA.out.grown hg9 (fun e => by obtain ⟨_, _, cur, hcur⟩ := HG5.out.blk _ e.symm; exact HLA.out.ne hcur (by decide) rfl); have c0 := hl9.cell 0; have c1 := hl9.cell 1; have c2 := hl9.cell 2; simp only [List.getElem?_toArray, List.getElem?_cons_zero, List.getElem?_cons_succ] at c0 c1 c2; have HB9 := Lib.hid (HB5.out.grown hg9 HB5.out.size (fun k e => (HG5.out.blk k e).1)); have HOW := Lib.hid hown9; clear hown9 hg9)
        refine (from_int (a := 0) _ rfl rfl rfl (by decide) ha2 ha3 HY16.out HFB.out).mono ?_
        rintro e w10 ⟨rfl, hb10⟩
        have HB10 := Lib.hid (HB9.out.trans (hb10.mono HB9.out.size))
        have HO10 := Lib.hid (HOW.out.below hb10 (fun g e => (HOW.out.blk g e).2.1))
        clear hb10 c0 c1 c2 hl9
        go_wp2_with fail
        go_roundg k'
        case measure => omega
        case rel => exact ⟨u, j', _, _, rfl, rfl, HU, HO10, Lib.hid (by rw [List.reverse_append]; exact .cons HJA.out HCAN.out (by have := HA.out; rw [HFY.out] at this; exact this)), by simp; omega, HB10⟩
      · have h2 : ¬ (a1 : Int) = 0 := by omega
        clear hne h1
        go_wp2_with fail
        refine (list_any a1 a2 a3 _).mono ?_
        rintro e w5 ⟨rfl, hb5⟩
        have hGa := HG.out.alloc (Obj.cells #[Value.int .i64 a1, Value.int .i64 a2, Value.int .i64 a3] 105)
        have hsz0 : (wr.alloc (Obj.cells #[Value.int .i64 a1, Value.int .i64 a2, Value.int .i64 a3] 105)).heap.size = wr.heap.size + 1 := by simp
        have HG5 := Lib.hid ((hGa.below hb5 (fun g e => (hGa.blk g e).2.1)).alloc (Obj.cells #[Value.int .i64 a1, Value.int .i64 a2, Value.int .i64 a3] 30))
        have HLA := Lib.hid (((Box.new wr 105 #[Value.int .i64 a1, Value.int .i64 a2, Value.int .i64 a3]).below hb5 (by omega)).alloc (Obj.cells #[Value.int .i64 a1, Value.int .i64 a2, Value.int .i64 a3] 30))
        have hwr := HB.out.size
        have hs5 := hb5.size
        have HB5 := Lib.hid ((((HB.out.alloc HB.out.size (Obj.cells #[Value.int .i64 a1, Value.int .i64 a2, Value.int .i64 a3] 105)).trans (hb5.mono (by omega)))).alloc (by omega) (Obj.cells #[Value.int .i64 a1, Value.int .i64 a2, Value.int .i64 a3] 30))
        have hw5 : w.heap.size ≤ (w5.alloc (Obj.cells #[Value.int .i64 a1, Value.int .i64 a2, Value.int .i64 a3] 30)).heap.size := by simp; omega
        have HBN := Lib.hid (Box.new w5 30 #[Value.int .i64 a1, Value.int .i64 a2, Value.int .i64 a3])
        clear hGa hb5
        go_wp2_with (at_builtin; refine wpList_addT _ rfl _ _ rfl HG5.out rfl w5.heap.size 1 _ _ _ rfl HBN.out (by omega) hw5 ?_; intro v9 w9 hown9 hg9; have hl9 := HLA.out.grown hg9 (fun e => by obtain ⟨_, _, cur, hcur⟩ := HG5.out.blk _ e.symm; exact HLA.out.ne hcur (by decide) rfl); have c0 := hl9.cell 0; have c1 := hl9.cell 1; have c2 := hl9.cell 2; simp only [List.getElem?_toArray, List.getElem?_cons_zero, List.getElem?_cons_succ] at c0 c1 c2; have HB9 := Lib.hid (HB5.out.grown hg9 HB5.out.size (fun k e => (HG5.out.blk k e).1)); have HOW := Lib.hid hown9; clear hown9 hg9)
        refine (from_int (a := a1) _ rfl rfl rfl ha1 ha2 ha3 HY16.out HFB.out).mono ?_
        rintro e w10 ⟨rfl, hb10⟩
        have HB10 := Lib.hid (HB9.out.trans (hb10.mono HB9.out.size))
        have HO10 := Lib.hid (HOW.out.below hb10 (fun g e => (HOW.out.blk g e).2.1))
        clear hb10 c0 c1 c2 hl9
        go_wp2_with fail
        go_roundg k'
        case measure => omega
        case rel => exact ⟨u, j', _, _, rfl, rfl, HU, HO10, Lib.hid (by rw [List.reverse_append]; exact .cons HJA.out HCAN.out (by have := HA.out; rw [HFY.out] at this; exact this)), by simp; omega, HB10⟩
end Go.Proofs.Ythbhengcinkepaa
