/- For any lists of integers: the function DiceOwn answers true: what Sums, Beats, Rank and Twins return lies in new memory: written over, it changes neither the dice nor what Sums returns of them afterwards; and none of them changes the dice. No conditions. -/
import Derived.Test.YtkkholagmjcgiaaTwins
import Derived.Test.YtkkholagmjcgiaaRSums
import Derived.Test.YtkkholagmjcgiaaBeats2
import Derived.Test.YtkkholagmjcgiaaOwn
import Derived.Test.YtkkholagmjcgiaaInts
import Derived.Test.YtkkholagmjcgiaaAwake
import Derived.Test.YtkkholagmjcgiaaOpen
namespace Go.Proofs.Ytkkholagmjcgiaa
open Go.ChangeShapes Go.WideShapes Go.ChangeAt Go.RowKit

theorem ownL_same {ds : List (List Int)} (h : AreDice ds) : ownL ds = ds := by
  unfold ownL
  have h6 := h.len
  rw [List.take_of_length_le (by omega)]
  calc ds.map (fun d => d.take 9) = ds.map id := List.map_congr_left fun d hd => List.take_of_length_le (by have := (h.die d hd).ok.1; omega)
    _ = ds := List.map_id _

/-- Every element of a slice lies in a block from a bound on, and may be written. -/
def Wr (w : World) (t : TypeId) (B : Nat) (A : Option Addr) (n size : Nat) : Prop := ∀ i, i < n → ∃ g cs, A = some ⟨g, 0, none⟩ ∧ B ≤ g ∧ Box w g t cs ∧ i * size + size ≤ cs.size
section
variable {w w' : World} {t : TypeId} {B n size : Nat} {A : Option Addr}
theorem wr_of {base : Nat} {v : Value} {xs : List Value} (h : w.ownsRow base t size v n xs) (hB : ∀ g, v.ownBlock = some g → B ≤ g) : ∃ A k, v = .slice A n k ∧ n ≤ 9223372036854775807 ∧ Wr w t B A n size := by
  rcases h.2 with ⟨e1, h0⟩ | ⟨g, cap, cur, e1, _, hh, h1, h2, h3, _⟩
  · exact ⟨none, 0, by rw [e1, h0], by omega, fun i hi => by omega⟩
  · refine ⟨_, cap, e1, by unfold maxLen at h2; omega, fun i hi => ⟨g, cur, rfl, hB g (by rw [e1]; rfl), hh, ?_⟩⟩
    rw [h3]
    have h5 : (i + 1) * size ≤ cap * size := Nat.mul_le_mul_right _ (by omega)
    rw [Nat.add_mul, Nat.one_mul] at h5
    exact h5
theorem Box.stays {g : Nat} {cs : Array Value} (h : Box w g t cs) (b j : Nat) (u : Value) : ∃ cs', Box (w.setCell ⟨b, j, none⟩ u) g t cs' ∧ cs'.size = cs.size := by
  by_cases e : g = b
  · subst e
    exact ⟨_, h.put j u, by simp⟩
  · exact ⟨cs, h.far e u, rfl⟩
theorem Wr.set (h : Wr w t B A n size) (b j : Nat) (u : Value) : Wr (w.setCell ⟨b, j, none⟩ u) t B A n size := fun i hi => by
  obtain ⟨g, cs, e, hb, hx, hl⟩ := h i hi
  obtain ⟨cs', hx', hl'⟩ := hx.stays b j u
  exact ⟨g, cs', e, hb, hx', by omega⟩
theorem Wr.later (h : Wr w t B A n size) (hb : Below w.heap.size w w') : Wr w' t B A n size := fun i hi => by
  obtain ⟨g, cs, e, hg, hx, hl⟩ := h i hi
  exact ⟨g, cs, e, hg, hx.below hb hx.lt, hl⟩
theorem Wr.drewN (h : Wr w t B A n size) (q : Nat) : Wr (w.drewN q) t B A n size := h.later (Below.drewN_ (Below.refl _ _) q)
end
theorem Tab.write {w : World} {T n m B b : Nat} {g : Nat → Nat} {f : Nat → Nat → Bool} {t : TypeId} {cs : Array Value} (h : Tab w T n m g f B) (hx : Box w b t cs) (h1 : t ≠ 65) (h2 : t ≠ 4) (j : Nat) (u : Value) : Tab (w.setCell ⟨b, j, none⟩ u) T n m g f B :=
  h.far (hx.ne h.tb h1) (fun a ha => hx.ne (h.rows a ha) h2) u

/-- The first dice of a list of pairs may be written. -/
def WP (w : World) (B : Nat) (A : Option Addr) (F : List (List Int × List Int)) : Prop := ∀ (i : Nat) (q : List Int × List Int), F[i]? = some q → ∃ g cur ax cx cs, A = some ⟨g, 0, none⟩ ∧ Box w g 77 cur ∧ cur[i * 2]? = some (.slice (some ⟨ax, 0, none⟩) q.1.length cx) ∧ B ≤ ax ∧ Box w ax 3 cs ∧ q.1.length ≤ cs.size ∧ q.1.length ≤ 9223372036854775807
theorem WP.write {w : World} {B b : Nat} {A : Option Addr} {F : List (List Int × List Int)} {t : TypeId} {cs : Array Value} (h : WP w B A F) (hx : Box w b t cs) (ht : 77 ≠ t) (j : Nat) (u : Value) : WP (w.setCell ⟨b, j, none⟩ u) B A F := fun i q hq => by
  obtain ⟨g, cur, ax, cx, cs2, e, hg, hc, hb, hx2, hl, h9⟩ := h i q hq
  obtain ⟨cs', hx', hl'⟩ := hx2.stays b j u
  exact ⟨g, cur, ax, cx, cs', e, hg.far (p := ⟨b, j, none⟩) (hg.ne hx ht) u, hc, hb, hx', by omega, h9⟩
theorem WP.later {w w' : World} {B : Nat} {A : Option Addr} {F : List (List Int × List Int)} (h : WP w B A F) (hb : Below w.heap.size w w') : WP w' B A F := fun i q hq => by
  obtain ⟨g, cur, ax, cx, cs2, e, hg, hc, hB, hx2, hl⟩ := h i q hq
  exact ⟨g, cur, ax, cx, cs2, e, hg.below hb hg.lt, hc, hB, hx2.below hb hx2.lt, hl⟩
theorem WP.lower {w : World} {B B' : Nat} {A : Option Addr} {F : List (List Int × List Int)} (h : WP w B A F) (hB : B' ≤ B) : WP w B' A F := fun i q hq => by
  obtain ⟨g, cur, ax, cx, cs2, e, hg, hc, hb, hx2, hl⟩ := h i q hq
  exact ⟨g, cur, ax, cx, cs2, e, hg, hc, by omega, hx2, hl⟩
theorem wp_of {w : World} {B : Nat} {fv : Value} {F : List (List Int × List Int)} (h : OutOk (fun i => i < B) w fv F) : ∃ A k, fv = .slice A F.length k ∧ WP w B A F := by
  obtain ⟨vs, hl, h1, _, h3⟩ := h
  rcases h1.2 with ⟨e1, h0⟩ | ⟨g, cap, cur, e1, _, hh, h4, _, h6, h7⟩
  · exact ⟨none, 0, by rw [e1, h0], fun i q hq => by
      have := (List.getElem?_eq_some_iff.1 hq).1
      omega⟩
  · refine ⟨_, cap, e1, fun i q hq => ?_⟩
    have hi : i < vs.length := by rw [hl]; exact (List.getElem?_eq_some_iff.1 hq).1
    have hp : vs[i]? = some vs[i] := List.getElem?_eq_getElem hi
    obtain ⟨⟨g1, k1, ev, hz, ho⟩, _⟩ := h3 i _ q hp hq
    obtain ⟨f1, _⟩ := flat2 (fun p : Value × Value => p.1) (fun p => p.2) vs i _ hp
    obtain ⟨cs, hbx, hs2, hle2, hmx, _⟩ := ho.box
    refine ⟨g, cur, g1, k1, cs, rfl, hh, ?_, by omega, hbx, by rw [hs2]; exact hle2, by unfold maxLen at hmx; omega⟩
    · rw [← h7, List.getElem?_take] at f1
      split at f1
      · rw [ev] at f1
        simpa using f1
      · cases f1
/-- A row of pairs of numbers, nil let in, as a slice that is read. -/
theorem prow_reads {w : World} {base : Nat} {v : Value} {ps : List (Int × Int)} (h : PRow w base v ps) : ∃ A c, v = .slice A ps.length c ∧ ∀ W, Below w.heap.size w W → ∀ i p, ps[i]? = some p → ∃ g, A = some ⟨g, 0, none⟩ ∧ W.cell? ⟨g, i * 2, none⟩ = some (.int .i64 p.1) ∧ W.cell? ⟨g, i * 2 + 1, none⟩ = some (.int .i64 p.2) := by
  rcases Nat.eq_zero_or_pos ps.length with h0 | h0
  · have hnil := List.eq_nil_of_length_eq_zero h0
    rcases h.2 with ⟨e1, _⟩ | ⟨g, cap, cur, e1, _⟩
    · exact ⟨none, 0, by rw [e1, h0], fun W _ i p hp => by rw [hnil] at hp; simp at hp⟩
    · exact ⟨_, cap, e1, fun W _ i p hp => by rw [hnil] at hp; simp at hp⟩
  · obtain ⟨g, k, e, _, hg, hc⟩ := h.cells h0
    exact ⟨_, k, e, fun W hb i p hp => ⟨g, rfl, (hb.cell (p := ⟨g, i * 2, none⟩) hg).trans (hc i p hp).1, (hb.cell (p := ⟨g, i * 2 + 1, none⟩) hg).trans (hc i p hp).2⟩⟩

set_option maxRecDepth 100000 in
set_option maxHeartbeats 8000000 in
theorem own_law (A : Option Addr) (l : List (List Int)) (c : Nat) (w : World) (hr : RDice w w.heap.size A l) (hl : l.length ≤ 9223372036854775807) (hd : ∀ x ∈ l, x.length ≤ 9223372036854775807) :
    Calls Try.prog 18 #[.slice A l.length c] w fun e w' => e = .returned (.bool true) ∧ Below w.heap.size w w' := by
  have HS := Lib.hid (show Calls Try.prog 36 #[.slice A l.length c, .int .i64 4, .int .i64 9] w (GaveD w (someL l 4 (9 : Nat))) from some_any A l c 4 9 w hr hl hd (by decide) (by decide))
  have hdi : AreDice (someL l 4 (9 : Nat)) := someL_dice l (by decide) (by decide) (by decide)
  obtain ⟨ds, hds⟩ : ∃ ds, someL l 4 (9 : Nat) = ds := ⟨_, rfl⟩
  rw [hds] at HS hdi
  have HDI := Lib.hid hdi
  have hlen := hdi.len
  have hpos := hdi.pos
  have HA := Lib.hid awake_any
  clear hr hds hdi hd
  go_enter Try.func18, Try.ntmps18
  go_wp2_with fail
  refine HS.out.mono ?_
  rintro e w1 ⟨v, G, K, rfl, hv, hb1⟩
  obtain ⟨Ax, cx, rfl, hcx, hrx⟩ := hv.reads
  obtain ⟨bx, ox, ax0, cx0, d0, eAx, hbx, hx0, hcell0, hd0, hr0⟩ := hrx.at_ (k := 0) hpos
  subst eAx
  obtain ⟨_, _, ax1, cx1, d1, eAx, _, hx1, hcell1, hd1, hr1⟩ := hrx.at_ (k := ds.length - 1) (by omega)
  cases eAx
  have HB1 := Lib.hid hb1
  have HRX := Lib.hid (show ∀ W, Below w1.heap.size w1 W → RDice W W.heap.size (some ⟨bx, ox, none⟩) ds from fun W hb => (hrx.below hb).more hb.size)
  have HC01 := Lib.hid (show ∀ W, Below w1.heap.size w1 W → W.cell? ⟨bx, ox, none⟩ = some (.slice ax0 d0.length cx0) ∧ W.cell? ⟨bx, ox + (ds.length - 1), none⟩ = some (.slice ax1 d1.length cx1) from fun W hb => ⟨(hb.cell (p := ⟨bx, ox, none⟩) hbx).trans hcell0, (hb.cell (p := ⟨bx, ox + (ds.length - 1), none⟩) hbx).trans hcell1⟩)
  have HR01 := Lib.hid (show ∀ W, Below w1.heap.size w1 W → RInts W W.heap.size ax0 d0 ∧ RInts W W.heap.size ax1 d1 from fun W hb => ⟨RInts.tow hr0 (Nat.le_refl _) hb, RInts.tow hr1 (Nat.le_refl _) hb⟩)
  have HDD := Lib.hid (And.intro (HDI.out.die d0 (List.mem_of_getElem? hx0)) (HDI.out.die d1 (List.mem_of_getElem? hx1)))
  clear hv hb1 hrx HS hx0 hx1 hcell0 hcell1 hr0 hr1
  go_wp2_with fail
  refine (own_any (some ⟨bx, ox, none⟩) ds cx w1 (HRX.out _ (Below.refl _ _)) (by omega) (fun x hx => by have := (HDI.out.die x hx).ok.1; omega)).mono ?_
  rintro e w2 ⟨Ao, co, rfl, hco, hro, hb2⟩
  rw [ownL_same HDI.out] at hro hco ⊢
  have HB2 := Lib.hid (keepC HB1.out hb2)
  have HB12 := Lib.hid hb2
  have HRO := Lib.hid (show ∀ W, Below w2.heap.size w2 W → RDice W W.heap.size Ao ds from fun W hb => (hro.below hb).more hb.size)
  clear hb2 hro HB1
  obtain ⟨M, hM⟩ : ∃ M, w2.heap.size = M := ⟨_, rfl⟩
  have HM := Lib.hid hM
  clear hM
  go_wp2_with fail
  refine (Sums_ok (some ⟨bx, ox, none⟩) ds cx w2 (HRX.out _ HB12.out) HDI.out).mono ?_
  rintro e w3 ⟨v1, rfl, hp1, hb3⟩
  obtain ⟨A1, k1, rfl, hS, hw1⟩ := wr_of (B := M) hp1 (fun g hg => by rw [← HM.out]; exact (PRow.blk hp1 g hg).1)
  have HB23 := Lib.hid hb3
  have HW3 := Lib.hid hw1
  obtain ⟨S, hSe⟩ : ∃ S, (sumsL ds).length = S := ⟨_, rfl⟩
  have HSL := Lib.hid hSe
  rw [hSe] at HW3 hS ⊢
  clear hp1 hb3 hw1 hSe
  go_wp2_with fail
  refine (Beats_ok (some ⟨bx, ox, none⟩) ds cx w3 (HRX.out _ (keepC HB12.out HB23.out)) HDI.out).mono ?_
  rintro e w4 ⟨T, gt, rfl, htab, hb4⟩
  have HB24 := Lib.hid (keepC HB23.out hb4)
  have HT4 := Lib.hid htab
  have HW4 := Lib.hid (HW3.out.later hb4)
  have hMT : M ≤ w3.heap.size := by rw [← HM.out]; exact HB23.out.size
  clear htab hb4 HW3 HB23
  go_wp2_with fail
  refine (Rank_fresh (some ⟨bx, ox, none⟩) ds cx w4 (HRX.out _ (keepC HB12.out HB24.out)) HDI.out).mono ?_
  rintro e w5 ⟨hrk, hb5⟩
  have hM4 : M ≤ w4.heap.size := by rw [← HM.out]; exact HB24.out.size
  obtain ⟨A2, n2, k2, b2, rfl, hn2, hw2⟩ : ∃ A2 n2 k2 b2, e = .returned (.tuple #[.slice A2 n2 k2, .bool b2, .int .i64 0]) ∧ n2 ≤ 9223372036854775807 ∧ Wr w5 3 M A2 n2 1 := by
    rcases hrk with ⟨_, rfl⟩ | ⟨_, v, rfl, hov, hob⟩
    · exact ⟨none, 0, 0, false, rfl, by omega, fun i hi => by omega⟩
    · obtain ⟨A2, k2, rfl, h1, h2⟩ := wr_of (B := M) hov (fun g hg => Nat.le_trans hM4 (hob g hg))
      exact ⟨A2, _, k2, true, rfl, h1, h2⟩
  have HB25 := Lib.hid (keepC HB24.out hb5)
  have HT5 := Lib.hid (HT4.out.below hb5 (Nat.le_refl _))
  have HW5 := Lib.hid (HW4.out.later hb5)
  have HK5 := Lib.hid hw2
  have hM5 : M ≤ w5.heap.size := by rw [← HM.out]; exact HB25.out.size
  clear hrk hb5 hw2 HT4 HW4 HB24
  have hc01 := HC01.out w5 (keepC HB12.out HB25.out)
  obtain ⟨hca, hcb⟩ := hc01
  have HR5 := Lib.hid (HR01.out w5 (keepC HB12.out HB25.out))
  have hbx5 : bx < w5.heap.size := Nat.lt_of_lt_of_le hbx (keepC HB12.out HB25.out).size
  have hwl : IntKind.i64.wrap ((ds.length : Int) - 1) = ((ds.length - 1 : Nat) : Int) := by rw [IntWalk.i64_in _ (by omega)]; omega
  have hdlt : ((ds.length - 1 : Nat) : Int) < (ds.length : Int) := by omega
  have hdl0 : (0 : Int) ≤ ((ds.length - 1 : Nat) : Int) := by omega
  have hdl1 : (0 : Int) < (ds.length : Int) := by omega
  have hdl2 : 0 < ds.length := hpos
  go_wp2_with fail
  go_region_held3 (fun w' => w'.cell? ⟨bx, ox, none⟩ = some (.slice ax0 d0.length cx0) ∧ w'.cell? ⟨bx, ox + (ds.length - 1), none⟩ = some (.slice ax1 d1.length cx1))
    (first
      | exact ⟨hca, hcb⟩
      | exact k3)
    (first
      | (go_at_call 34; refine (Twins_fresh ax0 ax1 d0 d1 cx0 cx1 w5.drew HR5.out.1 HR5.out.2 hd0 hd1 HDD.out.1 HDD.out.2).mono ?_; rintro e w6 ⟨fv, rfl, ho, hb6⟩; have HO6 := Lib.hid ho; have HB56 := Lib.hid (show Below w5.heap.size w5 w6 from (Below.drew (Below.refl w5.heap.size w5)).trans hb6); have k3 : w6.cell? ⟨bx, ox, none⟩ = some (.slice ax0 d0.length cx0) ∧ w6.cell? ⟨bx, ox + (ds.length - 1), none⟩ = some (.slice ax1 d1.length cx1) := ⟨(HB56.out.cell (p := ⟨bx, ox, none⟩) hbx5).trans hca, (HB56.out.cell (p := ⟨bx, ox + (ds.length - 1), none⟩) hbx5).trans hcb⟩; clear ho hb6))
  obtain ⟨A4, k4, rfl, hwp⟩ := wp_of HO6.out
  have HBM6 := Lib.hid (show Below M w2 w6 by rw [← HM.out]; exact keepC HB25.out HB56.out)
  have HT6 := Lib.hid (HT5.out.below HB56.out (Nat.le_refl _))
  have HW6 := Lib.hid (HW5.out.later HB56.out)
  have HK6 := Lib.hid (HK5.out.later HB56.out)
  have HP6 := Lib.hid (hwp.lower (B' := M) hM5)
  have hF : (twinsL d0 d1).length ≤ 100000 := Nat.le_trans (growL_le _ _ _ _ _ _ _ _ _) (by decide)
  obtain ⟨F, hFe⟩ : ∃ F, twinsL d0 d1 = F := ⟨_, rfl⟩
  rw [hFe] at HP6 hF ⊢
  clear hwp HO6 hca hcb k3 HR5 hbx5 hwl hdlt hdl0 hFe HT5 HW5 HK5 hdl2
  go_wp2_with fail
  go_loopg [14] S (fun g i wx => ∃ k : Nat, k + g = S ∧ i = .int .i64 k ∧ Hid (Wr wx 59 M A1 S 2) ∧ Hid (Tab wx T ds.length ds.length gt (bt ds) w3.heap.size) ∧ Hid (Wr wx 3 M A2 n2 1) ∧ Hid (WP wx M A4 F) ∧ Hid (Below M w2 wx))
  case atStart => exact ⟨0, by omega, rfl, HW6, HT6, HK6, HP6, HBM6⟩
  case round =>
    clear HW6 HT6 HK6 HP6 HBM6
    obtain ⟨k, hk, rfl, HW, HT, HK, HP, HB⟩ := hrel
    cases gk with
    | succ gg =>
      obtain ⟨g, cs, rfl, hgM, hbx1, hsz⟩ := HW.out k (by omega)
      obtain ⟨u0, hu0⟩ : ∃ u, cs[k * 2]? = some u := ⟨_, Array.getElem?_eq_getElem (by omega)⟩
      obtain ⟨u1, hu1⟩ : ∃ u, cs[k * 2 + 1]? = some u := ⟨_, Array.getElem?_eq_getElem (by omega)⟩
      have hc0 := (hbx1.cell (k * 2)).trans hu0
      have hc1 := (hbx1.cell (k * 2 + 1)).trans hu1
      have hf0 := hbx1.free (k * 2)
      have hf1 := hbx1.free (k * 2 + 1)
      have hk1 : (k : Int) < (S : Int) := by omega
      have hk0 : (0 : Int) ≤ (k : Int) := by omega
      have HX := Lib.hid hbx1
      have HG := Lib.hid hgM
      clear hbx1 hu0 hu1 hgM hsz
      go_wp2_with fail
      go_roundg gg
      case measure => omega
      case rel =>
        obtain ⟨cs', hx', _⟩ := HX.out.stays g (k * 2) (.int .i64 (-1))
        exact ⟨k + 1, by omega, by go_num, Lib.hid ((HW.out.set _ _ _).set _ _ _), Lib.hid ((HT.out.write HX.out (by decide) (by decide) _ _).write hx' (by decide) (by decide) _ _), Lib.hid ((HK.out.set _ _ _).set _ _ _), Lib.hid ((HP.out.write HX.out (by decide) _ _).write hx' (by decide) _ _), Lib.hid ((HB.out.setCell (p := ⟨g, k * 2, none⟩) HG.out _).setCell (p := ⟨g, k * 2 + 1, none⟩) HG.out _)⟩
    | zero =>
      obtain rfl : k = S := by omega
      clear HW
      go_wp2_with fail
      go_loopg [15] ds.length (fun g i wx => ∃ (a : Nat) (f : Nat → Nat → Bool), a + g = ds.length ∧ i = .int .i64 a ∧ Hid (Tab wx T ds.length ds.length gt f w3.heap.size) ∧ Hid (Wr wx 3 M A2 n2 1) ∧ Hid (WP wx M A4 F) ∧ Hid (Below M w2 wx))
      case atStart => exact ⟨0, _, by omega, rfl, HT, HK, HP, HB⟩
      case round =>
        clear HT HK HP HB
        obtain ⟨a, f, ha, rfl, HT, HK, HP, HB⟩ := hrel
        cases gk with
        | succ gg =>
          have ha1 : (a : Int) < (ds.length : Int) := by omega
          have ha0 : (0 : Int) ≤ (a : Int) := by omega
          have han : a < ds.length := by omega
          go_wp2_with fail
          go_loopg [16] ds.length (fun g i wx => ∃ (b : Nat) (f : Nat → Nat → Bool), b + g = ds.length ∧ i = .int .i64 b ∧ Hid (Tab wx T ds.length ds.length gt f w3.heap.size) ∧ Hid (Wr wx 3 M A2 n2 1) ∧ Hid (WP wx M A4 F) ∧ Hid (Below M w2 wx))
          case atStart => exact ⟨0, f, by omega, rfl, HT, HK, HP, HB⟩
          case round =>
            clear HT HK HP HB
            obtain ⟨b, f2, hb, rfl, HT, HK, HP, HB⟩ := hrel
            have hta : wr.cell? ⟨T, a, none⟩ = some (.slice (some ⟨gt a, 0, none⟩) ds.length ds.length) := by rw [HT.out.tb.cell a, tabCells_at han, if_pos han]
            cases gk with
            | zero =>
              obtain rfl : b = ds.length := by omega
              go_wp2_with fail
              go_roundg gg
              case measure => omega
              case rel => exact ⟨a + 1, f2, by omega, by go_num, HT, HK, HP, HB⟩
            | succ g3 =>
              have hb1 : (b : Int) < (ds.length : Int) := by omega
              have hb0 : (0 : Int) ≤ (b : Int) := by omega
              have hbn : b < ds.length := by omega
              have hcl : wr.cell? ⟨gt a, b, none⟩ = some (.bool (f2 a b)) := by rw [(HT.out.rows a han).cell b, rowCells_at hbn]
              have hfr := (HT.out.rows a han).free b
              have HGL := Lib.hid (show M ≤ gt a from Nat.le_trans hMT (HT.out.lo.2 a han))
              obtain ⟨bv, hbv⟩ : ∃ bv, f2 a b = bv := ⟨_, rfl⟩
              rw [hbv] at hcl
              clear hbv
              go_wp2_with fail
              go_still_tail 14, (by kernel_rfl)
              go_wp2_with fail
              go_roundg g3
              case measure => omega
              case rel =>
                have hbx := HT.out.rows a han
                exact ⟨b + 1, _, by omega, by go_num, Lib.hid ((HT.out.put han hbn (!bv)).drewN 1), Lib.hid ((HK.out.set _ _ _).drewN 1), Lib.hid ((HP.out.write hbx (by decide) _ _).later (Below.drewN_ (Below.refl _ _) 1)), Lib.hid ((HB.out.setCell (p := ⟨gt a, b, none⟩) HGL.out _).drew)⟩
        | zero =>
          obtain rfl : a = ds.length := by omega
          clear HT
          go_wp2_with fail
          go_loopg [17] n2 (fun g i wx => ∃ a : Nat, a + g = n2 ∧ i = .int .i64 a ∧ Hid (Wr wx 3 M A2 n2 1) ∧ Hid (WP wx M A4 F) ∧ Hid (Below M w2 wx))
          case atStart => exact ⟨0, by omega, rfl, HK, HP, HB⟩
          case round =>
            clear HK HP HB
            obtain ⟨a, ha, rfl, HK, HP, HB⟩ := hrel
            cases gk with
            | succ gg =>
              obtain ⟨g, cs, rfl, hgM, hbx1, hsz⟩ := HK.out a (by omega)
              obtain ⟨u0, hu0⟩ : ∃ u, cs[a]? = some u := ⟨_, Array.getElem?_eq_getElem (by omega)⟩
              have hc0 := (hbx1.cell a).trans hu0
              have hf0 := hbx1.free a
              have ha1 : (a : Int) < (n2 : Int) := by omega
              have ha0 : (0 : Int) ≤ (a : Int) := by omega
              have HX := Lib.hid hbx1
              have HG := Lib.hid hgM
              clear hbx1 hu0 hgM hsz
              go_wp2_with fail
              go_roundg gg
              case measure => omega
              case rel => exact ⟨a + 1, by omega, by go_num, Lib.hid (HK.out.set _ _ _), Lib.hid (HP.out.write HX.out (by decide) _ _), Lib.hid (HB.out.setCell (p := ⟨g, a, none⟩) HG.out _)⟩
            | zero =>
              obtain rfl : a = n2 := by omega
              clear HK
              go_wp2_with fail
              go_loopg [18] F.length (fun g i wx => ∃ a : Nat, a + g = F.length ∧ i = .int .i64 a ∧ Hid (WP wx M A4 F) ∧ Hid (Below M w2 wx))
              case atStart => exact ⟨0, by omega, rfl, HP, HB⟩
              case round =>
                clear HP HB
                obtain ⟨a, ha, rfl, HP, HB⟩ := hrel
                cases gk with
                | succ gg =>
                  obtain ⟨q, hq⟩ : ∃ q, F[a]? = some q := ⟨_, List.getElem?_eq_getElem (by omega)⟩
                  have HQ := Lib.hid hq
                  have ha1 : (a : Int) < (F.length : Int) := by omega
                  have ha0 : (0 : Int) ≤ (a : Int) := by omega
                  clear hq
                  go_wp2_with fail
                  go_loopg [19] q.1.length (fun g i wx => ∃ b : Nat, b + g = q.1.length ∧ i = .int .i64 b ∧ Hid (WP wx M A4 F) ∧ Hid (Below M w2 wx))
                  case atStart => exact ⟨0, by omega, rfl, HP, HB⟩
                  case round =>
                    clear HP HB
                    obtain ⟨b, hb, rfl, HP, HB⟩ := hrel
                    obtain ⟨g, cur, ax, cx2, cs, rfl, hgx, hcur, haM, hbx1, hsz, hq9⟩ := HP.out a q HQ.out
                    have hcell := (hgx.cell (a * 2)).trans hcur
                    clear hgx hcur
                    cases gk with
                    | zero =>
                      obtain rfl : b = q.1.length := by omega
                      clear hbx1 hsz
                      go_wp2_with fail
                      go_roundg gg
                      case measure => omega
                      case rel => exact ⟨a + 1, by omega, by go_num, HP, HB⟩
                    | succ g3 =>
                      obtain ⟨u0, hu0⟩ : ∃ u, cs[b]? = some u := ⟨_, Array.getElem?_eq_getElem (by omega)⟩
                      have hc0 := (hbx1.cell b).trans hu0
                      have hf0 := hbx1.free b
                      have hb1 : (b : Int) < (q.1.length : Int) := by omega
                      have hb0 : (0 : Int) ≤ (b : Int) := by omega
                      have HX := Lib.hid hbx1
                      have HG := Lib.hid haM
                      clear hbx1 hu0 haM hsz
                      go_wp2_with fail
                      go_roundg g3
                      case measure => omega
                      case rel => exact ⟨b + 1, by omega, by go_num, Lib.hid (HP.out.write HX.out (by decide) _ _), Lib.hid (HB.out.setCell (p := ⟨ax, b, none⟩) HG.out _)⟩
                | zero =>
                  obtain rfl : a = F.length := by omega
                  clear HP
                  have HB27 := Lib.hid (show Below w2.heap.size w2 wr by rw [HM.out]; exact HB.out)
                  clear HB
                  go_wp2_with fail
                  refine (Sums_ok (some ⟨bx, ox, none⟩) ds cx wr (HRX.out _ (keepC HB12.out HB27.out)) HDI.out).mono ?_
                  rintro e w8 ⟨v8, rfl, hp8, hb8⟩
                  obtain ⟨A8, k8, rfl, hq8⟩ := prow_reads hp8
                  have HQ8 := Lib.hid hq8
                  have HB28 := Lib.hid (keepC HB27.out hb8)
                  rw [HSL.out]
                  clear hp8 hq8 hb8 HB27
                  go_wp2_with fail
                  refine (RSums_any Ao ds co w8 (HRO.out _ HB28.out) hlen HDI.out.die).mono ?_
                  rintro e w9 ⟨v9, rfl, hp9, hb9⟩
                  obtain ⟨A9, k9, rfl, _⟩ := prow_reads hp9
                  have HB29 := Lib.hid (keepC HB28.out hb9)
                  have HB89 := Lib.hid hb9
                  rw [HSL.out]
                  clear hp9 hb9 HB28
                  go_wp2_with fail
                  go_loopg [22] ds.length (fun g i wx => ∃ a : Nat, a + g = ds.length ∧ i = .int .i64 a ∧ Hid (Below w9.heap.size w9 wx))
                  case atStart => exact ⟨0, by omega, rfl, Lib.hid (Below.refl _ _)⟩
                  case round =>
                    obtain ⟨a, ha, rfl, HW⟩ := hrel
                    have HBW := Lib.hid (keepC HB29.out HW.out)
                    cases gk with
                    | succ gg =>
                      obtain ⟨_, _, ap, cp1, dp, eA1, _, hxp, hcp, hdp, hrp⟩ := (HRX.out wr (keepC HB12.out HBW.out)).at_ (k := a) (by omega)
                      cases eA1
                      obtain ⟨bo, oo, aq, cq1, dq, eA2, _, hxq, hcq, hdq, hrq⟩ := (HRO.out wr HBW.out).at_ (k := a) (by omega)
                      subst eA2
                      obtain rfl : dp = dq := by rw [hxp] at hxq; exact Option.some.inj hxq
                      have hl8 := (HDI.out.die dp (List.mem_of_getElem? hxp)).ok.1
                      have HI1 := Lib.hid (fun n => ints_any ap aq dp dp cp1 cq1 wr.heap.size (wr.drewN n) (hrp.drewN n) (hrq.drewN n) (by omega) (by omega))
                      rw [decide_eq_true (rfl : dp = dp)] at HI1
                      have ha1 : (a : Int) < (ds.length : Int) := by omega
                      have ha0 : (0 : Int) ≤ (a : Int) := by omega
                      clear hxp hxq hrp hrq hl8 hdp hdq
                      go_wp2_with fail
                      go_quiet ((go_at_call 55; with_reducible exact quiet_d0 (HI1.out _)))
                      go_wp2_with fail
                      go_roundg gg
                      case measure => omega
                      case rel => exact ⟨a + 1, by omega, by go_num, Lib.hid (Below.drewN_ HW.out _)⟩
                    | zero =>
                      obtain rfl : a = ds.length := by omega
                      go_wp2_with fail
                      refine (RSums_any Ao ds co wr (HRO.out _ HBW.out) hlen HDI.out.die).mono ?_
                      rintro e w10 ⟨v10, rfl, hp10, hb10⟩
                      obtain ⟨A10, k10, rfl, hq10⟩ := prow_reads hp10
                      have HQ10 := Lib.hid hq10
                      have HB2t := Lib.hid (keepC HBW.out hb10)
                      have HB8t := Lib.hid (keepC (keepC HB89.out HW.out) hb10)
                      rw [HSL.out]
                      clear hp10 hq10 hb10 HBW HW
                      go_wp2_with fail
                      go_loopg [24] k (fun gg i wx => ∃ j : Nat, j + gg = k ∧ i = .int .i64 j ∧ Hid (Below w10.heap.size w10 wx))
                      case atStart => exact ⟨0, by omega, rfl, Lib.hid (Below.refl _ _)⟩
                      case round =>
                        obtain ⟨i, hi, rfl, HW⟩ := hrel
                        cases gk with
                        | succ gg =>
                          obtain ⟨q, hq⟩ : ∃ q, (sumsL ds)[i]? = some q := ⟨_, List.getElem?_eq_getElem (by rw [HSL.out]; omega)⟩
                          obtain ⟨g1, hA1, x1, y1⟩ := HQ8.out wr (keepC HB8t.out HW.out) i q hq
                          obtain ⟨g2, hA2, x2, y2⟩ := HQ10.out wr HW.out i q hq
                          subst hA1 hA2
                          have hi1 : (i : Int) < (k : Int) := by omega
                          have hi0 : (0 : Int) ≤ (i : Int) := by omega
                          have heq := pairEq_same q.1 q.2
                          clear hq
                          go_wp2_with fail
                          go_quiet (fail)
                          go_wp2_with fail
                          go_roundg gg
                          case measure => omega
                          case rel => exact ⟨i + 1, by omega, by go_num, Lib.hid (Below.drewN_ HW.out _)⟩
                        | zero =>
                          obtain rfl : i = k := by omega
                          have HBF := Lib.hid (keepC HB2.out (keepC HB2t.out HW.out))
                          go_wp2_with fail
                          refine (HA.out _).mono ?_
                          rintro e w11 ⟨rfl, hb11⟩
                          have HB11 := Lib.hid (keepC HBF.out hb11)
                          clear hb11
                          go_wp2_with fail
                          go_ret
                          exact ⟨rfl, HB11.out⟩

set_option maxRecDepth 100000 in
theorem own_row (os : Os) (started : os.Started) (H : Type) (enc : TypeId × Value → H) :
    ReturnsInHanded {} Try.checked os 18 .any (Rows.diceOwnSpec.pre6 enc Try.prog Try.f18 Rows.diceOwnRow.domain false) (Rows.diceOwnSpec.post enc Try.prog Try.f18 false true false false) := by
  refine returnsInHanded_of_change (C := Try.checked) ownNone started (by kernel_rfl) Try.func18
    (ChangeSpec.witness6 (enc := enc) (C := Try.checked) false ⟨#[], #[.slice none 0 0], []⟩ 8 (by kernel_rfl) (by kernel_rfl) (by kernel_rfl) (by kernel_rfl)) ?_
  intro W base args ds gs before hval hW _ _
  have hW2 := hW
  obtain ⟨p, q, hA, hV, rfl, _, _⟩ := hW2
  have hA : DataW.TrodAll enc Try.prog W 0 (fun _ => true) true Try.f18.params.toList args.toList ds p := hA
  have hAk := hA
  have hval : ∀ (j : Nat) t v, Try.f18.params[j]? = some t → args[j]? = some v → Value.okWide Try.prog W .any base t v := hval
  rw [Try.params18] at hA hval
  obtain ⟨v0, vs0, d0, ds0, p0, q0, hargs, rfl, rfl, h0, r0⟩ := trodAll_cons hA
  obtain ⟨rfl, rfl, rfl⟩ := trodAll_nil r0
  obtain rfl : args = #[v0] := by cases args; simp_all
  obtain ⟨rfl, rfl⟩ := trodVars_none hV
  obtain ⟨A0, z0, c0, rfl, _, m0, hr0, e0⟩ := open_dice (hval 0 22 v0 rfl rfl) h0
  clear hA hval
  simp only [List.append_nil] at hW hAk
  refine (own_law A0 z0 c0 W hr0 m0 e0).mono fun e W' ⟨he, hb⟩ => ?_
  subst he
  exact ⟨_, rfl, post_bool hW hb (by rw [Try.params18]; decide) hAk (fun _ => rfl) rfl rfl (by kernel_rfl)⟩

theorem own_holds : Rows.DiceOwnSaid :=
  OpenClaim.holds_of_wide 18 Try.f18 rfl rfl rfl rfl rfl rfl rfl ⟨rfl, rfl, rfl, rfl, rfl⟩ rfl rfl rfl rfl rfl (by kernel_rfl) Try.func18 (by kernel_rfl)
    (of_decide_eq_true (by kernel_rfl)) (by unfold Func.isWrapper; first | (rw [if_pos (by decide +kernel)]; kernel_rfl) | (rw [if_neg (by decide +kernel)]; exact ⟨rfl, rfl⟩))
    (fun os started H enc _ => own_row os started H enc)

#print axioms own_holds
end Go.Proofs.Ytkkholagmjcgiaa
