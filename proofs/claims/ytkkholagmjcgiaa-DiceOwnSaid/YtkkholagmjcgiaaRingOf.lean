/- The function ringOf of package dice: it walks from dice to their winners until one comes again; the walk from there on, backwards. -/
import Derived.Test.YtkkholagmjcgiaaRank2
import Derived.Deep.DeepCutAuto
namespace Go.Proofs.Ytkkholagmjcgiaa
open Go.RowKit

theorem idxFrom_hit : ∀ (zs : List Int) (x : Int) (i : Nat), zs.contains x = true → ∃ k, k < zs.length ∧ Lib.idxFrom zs x i = ((i + k : Nat) : Int) ∧ zs[k]? = some x
  | [], x, i, h => by simp at h
  | z :: zs, x, i, h => by
    by_cases e : z = x
    · exact ⟨0, by simp, by simp [Lib.idxFrom, e], by simp [e]⟩
    · have h2 : zs.contains x = true := by simpa [Ne.symm e] using h
      obtain ⟨k, h3, h4, h5⟩ := idxFrom_hit zs x (i + 1) h2
      refine ⟨k + 1, by simp; omega, ?_, by simpa using h5⟩
      simp only [Lib.idxFrom, e, if_false]
      rw [h4]
      omega

theorem nodup_le : ∀ (l m : List Int), l.Nodup → (∀ x ∈ l, x ∈ m) → l.length ≤ m.length
  | [], m, _, _ => Nat.zero_le _
  | x :: l, m, h, hs => by
    rw [List.nodup_cons] at h
    have hx : x ∈ m := hs x (by simp)
    have h2 := nodup_le l (m.erase x) h.2 (fun y hy => by
      have hne : y ≠ x := by
        rintro rfl
        exact h.1 hy
      rw [List.mem_erase_of_ne hne]
      exact hs y (by simp [hy]))
    rw [List.length_erase_of_mem hx] at h2
    have : 0 < m.length := List.length_pos_of_mem hx
    simp
    omega

theorem nodup_more {walk left : List Int} {die : Int} (h : walk.Nodup ∧ ∀ x ∈ walk, x ∈ left) (hc : walk.contains die = false) (hd : die ∈ left) : (walk ++ [die]).Nodup ∧ ∀ x ∈ walk ++ [die], x ∈ left := by
  constructor
  · rw [List.nodup_append]
    refine ⟨h.1, by simp, fun a ha b hb => ?_⟩
    simp at hb
    subst hb
    rintro rfl
    have : walk.contains a = true := by simpa using ha
    rw [hc] at this
    cases this
  · intro x hx
    rw [List.mem_append] at hx
    rcases hx with hx | hx
    · exact h.2 x hx
    · simp at hx
      subst hx
      exact hd

/-- From dice to their winners. -/
def walkL (t : List (List Bool)) (left : List Int) : Nat → List Int → Int → List Int × Int
  | 0, k, d => (k, d)
  | g + 1, k, d => if k.contains d then (k, d) else walkL t left g (k ++ [d]) (winnerL t left d)
def ringL (t : List (List Bool)) (left : List Int) (n : Nat) : List Int :=
  ((walkL t left (n + 1) [] (left.getD 0 0)).1.drop (Lib.idxOf (walkL t left (n + 1) [] (left.getD 0 0)).1 (walkL t left (n + 1) [] (left.getD 0 0)).2).toNat).reverse

theorem OwnV.cells {w : World} {v : Value} {zs : List Int} (h : OwnV w v zs) : v = .slice none 0 0 ∧ zs = [] ∨ ∃ g k, v = .slice (some ⟨g, 0, none⟩) zs.length k ∧ OwnR w g k zs := by
  rcases h.2 with ⟨h1, h2⟩ | ⟨g, k, cur, e, hb, hh, h1, h2, h3, h4⟩
  · exact .inl ⟨h1, List.length_eq_zero_iff.1 h2⟩
  · exact .inr ⟨g, k, e, OwnR.of_box hh (by simpa using h3) h1 h2 (by simpa using h4)⟩
theorem OwnR.getD_cell {w : World} {g k : Nat} {zs : List Int} (h : OwnR w g k zs) : ∀ j, j < zs.length → w.cell? ⟨g, 0 + j, none⟩ = some (.int .i64 (zs.getD j 0)) := fun j hj => by
  have h1 := h.at_ (List.getElem?_eq_getElem hj)
  have h2 : zs.getD j 0 = zs[j] := by simp [List.getD, List.getElem?_eq_getElem hj]
  rw [h2, Nat.zero_add]
  exact h1
theorem OwnR.big {w : World} {g k : Nat} {zs : List Int} (h : OwnR w g k zs) : zs.length ≤ 9223372036854775807 := by
  obtain ⟨_, _, _, h2, h3, _⟩ := h.box
  unfold maxLen at h3
  omega

theorem Contains_own (v : Value) (zs : List Int) (x : Int) (w : World) (h : OwnV w v zs) :
    Calls Try.prog 90 #[v, .int .i64 x] w fun e w' => e = .returned (.bool (zs.contains x)) ∧ w = w' := by
  rcases h.cells with ⟨rfl, rfl⟩ | ⟨g, k, rfl, ho⟩
  · exact (Try.slices_Contains_int_empty none 0 x w).mono fun e w' ⟨h1, h2⟩ => ⟨h1, h2.symm⟩
  · refine (Try.slices_Contains_int g 0 zs.length k zs x w (Nat.le_refl _) ho.big ho.getD_cell).mono fun e w' ⟨h1, h2⟩ => ⟨?_, h2.symm⟩
    rw [h1, List.take_length]
theorem Index_own (v : Value) (zs : List Int) (x : Int) (w : World) (h : OwnV w v zs) :
    Calls Try.prog 91 #[v, .int .i64 x] w fun e w' => e = .returned (.int .i64 (Lib.idxOf zs x)) ∧ w = w' := by
  rcases h.cells with ⟨rfl, rfl⟩ | ⟨g, k, rfl, ho⟩
  · exact (Try.slices_Index_int_empty none 0 x w).mono fun e w' ⟨h1, h2⟩ => ⟨h1, h2.symm⟩
  · refine (Try.slices_Index_int g 0 zs.length k zs x w (Nat.le_refl _) ho.big ho.getD_cell).mono fun e w' ⟨h1, h2⟩ => ⟨?_, h2.symm⟩
    rw [h1, List.take_length]
theorem Reverse_own (g kc k c : Nat) (zs : List Int) (w : World) (h : OwnR w g kc zs) (hk : k ≤ zs.length) :
    Calls Try.prog 92 #[.slice (some ⟨g, k, none⟩) (zs.length - k) c] w fun e w' => e = .returned (.tuple #[]) ∧ RInts w' w'.heap.size (some ⟨g, k, none⟩) (zs.drop k).reverse ∧ w.grownBy w' (some g) := by
  obtain ⟨cur, hb, h1, h2, h3, h4⟩ := h.box
  have hl : (zs.drop k).length = zs.length - k := by simp
  have hbig := h.big
  refine (Try.slices_Reverse_int_cells g k (zs.length - k) c (zs.drop k) w (by omega) (by omega) (fun j hj => ?_) (fun j _ => hb.free _)).mono ?_
  · have h5 := h.getD_cell (k + j) (by omega)
    rw [Nat.zero_add] at h5
    rw [h5]
    simp [List.getD]
  · rintro e w' ⟨rfl, q, rfl⟩
    have hlr : ((((zs.drop k).take (zs.length - k)).reverse).map (Value.int .i64)).length = zs.length - k := by simp
    obtain ⟨cs', b1, b2, b3⟩ := box_setCells ((((zs.drop k).take (zs.length - k)).reverse).map (Value.int .i64)) k (hb.drewN q) (by rw [hlr]; omega)
    have het : (zs.drop k).take (zs.length - k) = zs.drop k := List.take_of_length_le (by omega)
    refine ⟨rfl, fun j u hu => ⟨g, k, rfl, b1.lt, ?_⟩, ?_⟩
    · have hj : j < zs.length - k := by
        have := (List.getElem?_eq_some_iff.1 hu).1
        simpa using this
      rw [b1.cell (k + j), b3 (k + j), if_pos ⟨by omega, by rw [hlr]; omega⟩, show k + j - k = j by omega, het]
      exact hu
    · exact ⟨(grown_setCells (w := w.drewN q) _ k).os, (grown_setCells (w := w.drewN q) _ k).tape, (grown_setCells (w := w.drewN q) _ k).output, (grown_setCells (w := w.drewN q) _ k).size, (grown_setCells (w := w.drewN q) _ k).block⟩

set_option maxRecDepth 100000 in
set_option maxHeartbeats 2000000 in
theorem ringOf_any (A A2 : Option Addr) (t : List (List Bool)) (left : List Int) (c c2 n : Nat) (w : World) (ht : RTab w w.heap.size A t) (hs : RInts w w.heap.size A2 left) (hq : Square t n) (hi : Inds left n) (hpos : 1 ≤ left.length) (hwin : ∀ d ∈ left, winnerL t left d ∈ left) (hn : n ≤ 1000) (hl : left.length ≤ 1000) :
    Calls Try.prog 64 #[.slice A n c, .slice A2 left.length c2] w fun e w' => ∃ A3 c3, e = .returned (.slice A3 (ringL t left n).length c3) ∧ RInts w' w'.heap.size A3 (ringL t left n) ∧ Below w.heap.size w w' := by
  obtain ⟨b, o, d0, hA2, hb, hd0, hc0⟩ := hs.at_ (k := 0) (by omega)
  have HT := Lib.hid ht
  have HS := Lib.hid hs
  have HQ := Lib.hid hq
  have HI := Lib.hid hi
  have HWIN := Lib.hid hwin
  have HD0 := Lib.hid (show left.getD 0 0 = d0 by simp [List.getD, hd0])
  have HM0 := Lib.hid (List.mem_of_getElem? hd0)
  have hpi : (0 : Int) < (left.length : Int) := by omega
  have hpn : 0 < left.length := by omega
  rw [Nat.add_zero] at hc0
  subst hA2
  clear ht hs hq hi hwin hd0
  go_enter Try.func64, Try.ntmps64
  go_wp2_with fail
  go_loopg [5, 6] (n + 1) (fun g wv dv wx => ∃ (walk : List Int) (die : Int) (v : Value), v = wv ∧ walk.length + g = n + 1 ∧ dv = .int .i64 die ∧ OwnV wx wv walk ∧ (∀ b, wv.ownBlock = some b → w.heap.size ≤ b) ∧ Hid (die ∈ left) ∧ Hid (walk.Nodup ∧ ∀ x ∈ walk, x ∈ left) ∧ Hid (walkL t left g walk die = walkL t left (n + 1) [] d0) ∧ Below w.heap.size w wx)
  case atStart => exact ⟨[], d0, _, rfl, by simp, rfl, OwnV.nil_ _, (fun b hb => by cases hb), HM0, Lib.hid ⟨List.nodup_nil, fun x hx => by cases hx⟩, rfl, Below.refl _ _⟩
  case round =>
    obtain ⟨walk, die, wv, rfl, hwg, rfl, hov, hvb, HDL1, HND1, HWL1, hB⟩ := hrel
    have HDL := HDL1
    have HND := HND1
    have HWL := HWL1
    clear HDL1 HND1 HWL1
    have HC := Lib.hid (Contains_own wv walk die wr hov)
    have hwn : walk.length ≤ n := by
      have h1 := nodup_le walk (evK n) HND.out.1 (fun x hx => mem_evK.2 (HI.out x (HND.out.2 x hx)))
      simpa [evK] using h1
    cases hcon : walk.contains die with
    | true =>
      have HCON := Lib.hid hcon
      have HWE := Lib.hid (show walkL t left (n + 1) [] d0 = (walk, die) by
        rw [← HWL.out]
        cases gk with
        | zero => rfl
        | succ g => simp only [walkL, hcon, if_true])
      obtain ⟨k, hk, hidx, _⟩ := idxFrom_hit walk die 0 hcon
      obtain ⟨gw, kw, rfl, how⟩ := hov.form (by omega)
      have HIX := Lib.hid (show Lib.idxOf walk die = (k : Int) by unfold Lib.idxOf; rw [hidx]; omega)
      have HIDX := Lib.hid (Index_own (.slice (some ⟨gw, 0, none⟩) walk.length kw) walk die wr hov)
      have hcap := how.cap
      have HRV := Lib.hid (Reverse_own gw kw k (kw - k) walk wr how (by omega))
      have HL := Lib.hid (show (ringL t left n).length = walk.length - k ∧ ringL t left n = (walk.drop k).reverse by
        unfold ringL
        rw [HD0.out, HWE.out]
        simp only []
        rw [HIX.out]
        simp)
      have hgw := hvb gw rfl
      have HB := Lib.hid hB
      clear hcon hidx hov how hvb hB hwg
      go_wp2_with fail
      refine HC.out.mono ?_
      rintro e w' ⟨rfl, rfl⟩
      rw [HCON.out]
      go_wp2_with fail
      refine HIDX.out.mono ?_
      rintro e w' ⟨rfl, rfl⟩
      rw [HIX.out]
      go_wp2_with fail
      refine HRV.out.mono ?_
      rintro e w' ⟨rfl, hri, hgr⟩
      have HRI := Lib.hid hri
      have HB2 := Lib.hid (HB.out.grown hgr HB.out.size (fun j hj => by have := Option.some.inj hj; omega))
      clear hri hgr
      go_wp2_with fail
      go_ret
      exact ⟨some ⟨gw, k, none⟩, kw - k, by rw [HL.out.1]; rfl, by rw [HL.out.2]; exact HRI.out, HB2.out⟩
    | false =>
      obtain ⟨g, rfl⟩ : ∃ g, gk = g + 1 := ⟨gk - 1, by omega⟩
      have HCON := Lib.hid hcon
      have HNX := Lib.hid (show walkL t left g (walk ++ [die]) (winnerL t left die) = walkL t left (n + 1) [] d0 by
        rw [← HWL.out]
        simp only [walkL, hcon, Bool.false_eq_true, if_false])
      have HND2 := Lib.hid (show (walk ++ [die]).Nodup ∧ ∀ x ∈ walk ++ [die], x ∈ left from nodup_more HND.out hcon HDL.out)
      have hcn : ∀ (o : Value), (wr.alloc (Obj.cells #[o] 3)).cell? ⟨wr.heap.size, 0, none⟩ = some o := fun o => (Box.new wr 3 #[o]).cell 0
      have HCN := Lib.hid hcn
      have HOV := Lib.hid hov
      have HVB := Lib.hid hvb
      have HB := Lib.hid hB
      clear hcon hcn hov hvb hB
      go_wp2_with fail
      refine HC.out.mono ?_
      rintro e w' ⟨rfl, rfl⟩
      rw [HCON.out]
      go_wp2_with (first
        | (at_builtin; refine wpList_app0 _ rfl _ _ rfl (World.ownsRow.alloc HOV.out _) rfl wr.heap.size 1 die rfl (HCN.out _) (by omega) ?_; intro gn kn w4 hown4 hg4 hat4))
      have hsz : (wr.alloc (Obj.cells #[Value.int .i64 die] 3)).heap.size = wr.heap.size + 1 := by simp
      have hgnb : w.heap.size ≤ gn := by
        rcases hat4 with h1 | h1
        · exact HVB.out _ h1
        · have := HB.out.size
          rw [h1, hsz]
          omega
      have HB4 := Lib.hid ((HB.out.alloc HB.out.size (Obj.cells #[Value.int .i64 die] 3)).grown hg4 (by have := HB.out.size; rw [hsz]; omega) (fun j hj => HVB.out _ hj))
      have HWC := Lib.hid (winner_any A (some ⟨b, o, none⟩) t left die c c2 n w.heap.size w4 (HT.out.below HB4.out) (HS.out.below HB4.out) HQ.out HI.out (HI.out die HDL.out) hn hl)
      have HOWN4 := Lib.hid hown4
      clear hown4 hg4 hat4 hsz
      refine HWC.out.mono ?_
      rintro e w' ⟨rfl, rfl⟩
      go_wp2_with fail
      go_roundg g
      case measure => omega
      case rel =>
        refine ⟨walk ++ [die], winnerL t left die, _, rfl, by simp; omega, rfl, ?_, (fun b hb => by have e : gn = b := (by simpa [Value.ownBlock] using hb); omega), Lib.hid (HWIN.out die HDL.out), HND2, HNX, HB4.out⟩
        have h1 := HOWN4.out
        have h2 : (walk ++ [die]).length = walk.length + 1 := by simp
        unfold OwnR at h1
        rw [h2] at h1
        unfold OwnV
        rw [h2]
        exact h1

end Go.Proofs.Ytkkholagmjcgiaa
