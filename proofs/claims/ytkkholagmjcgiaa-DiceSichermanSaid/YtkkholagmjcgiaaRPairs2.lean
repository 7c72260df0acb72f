/- The plain search of twins finds just the two dice that go on from two that are begun and show each sum as often as is asked, in rising order: mathematics. No program is spoken of. · The reference's functions Pairs, Twins and Even: they return just the lists that the plain search finds. -/
import Derived.Test.YtkkholagmjcgiaaTwinsL
import Derived.Test.YtkkholagmjcgiaaTwins
import Derived.Test.YtkkholagmjcgiaaRGrown
import Derived.Test.YtkkholagmjcgiaaAwake
namespace Go.Proofs.Ytkkholagmjcgiaa
open Go.RowKit Go.Maps

theorem PairsIn.gst {n m : Nat} {c0 d0 : Int} {f : Int → Int} {S : Int → Bool} {ks : List Int} (h : PairsIn n m c0 d0 f S ks) : GSt n m f ks 0 [c0] [d0] (tk f c0 [d0]) := by
  have hcd := h.cd
  have hlow : ∀ y, tk f c0 [d0] y ≠ 0 → c0 + d0 ≤ y := fun y hy => (h.kr y (h.inv.key y hy)).1
  refine ⟨h.inv, ⟨fun y => ?_, List.pairwise_singleton _ _, List.pairwise_singleton _ _, fun x hx y hy => ?_, fun x hx y hy => ?_⟩, h.rise⟩
  · rw [tk_eq]
    simp [cp]
  · rw [List.mem_singleton.1 hx]
    exact hlow y hy
  · rw [List.mem_singleton.1 hx]
    exact hlow y hy
/-- What a search of twins is asked for. -/
structure AllTwo (n m : Nat) (W : Int → Int) (c0 d0 : Int) (F : List (List Int × List Int)) : Prop where
  rise : RiseP F
  mem : ∀ p, p ∈ F ↔ Two n m W p.1 p.2 ∧ Ext [c0] [d0] p.1 p.2
theorem AllTwo.unique {n m : Nat} {W : Int → Int} {c0 d0 : Int} {F G : List (List Int × List Int)} (h : AllTwo n m W c0 d0 F) (h2 : AllTwo n m W c0 d0 G) : F = G :=
  RiseP.unique h.rise h2.rise fun p => (h.mem p).trans (h2.mem p).symm
theorem PairsIn.all {n m : Nat} {c0 d0 : Int} {f : Int → Int} {S : Int → Bool} {ks : List Int} (h : PairsIn n m c0 d0 f S ks) : AllTwo n m f c0 d0 (pairsL n m c0 d0 f ks) := by
  have hnm := h.nm
  refine ⟨growL_rise 15 n m f ks 0 (-1) [c0] [d0] _ h.gst (by omega) (by simp; omega), fun p => ?_⟩
  refine (growL_mem 15 n m f ks 0 (-1) [c0] [d0] _ h.gst (by omega) (by simp; omega) p).trans ?_
  exact ⟨fun h => ⟨h.1, h.2.1⟩, fun h => ⟨h.1, h.2, fun _ _ e => by omega⟩⟩
theorem twins_all {a b : List Int} (ha : IsDie a) (hb : IsDie b) : AllTwo a.length b.length (waysF [a, b]) (a.headD 0) (b.headD 0) (twinsL a b) := (twinIn ha hb).all

end Go.Proofs.Ytkkholagmjcgiaa

namespace Go.Proofs.Ytkkholagmjcgiaa
open Go.RowKit

theorem die_one {x : Int} (h : 0 ≤ x ∧ x ≤ 60) : IsDie [x] :=
  ⟨⟨by simp, fun u hu => by rw [List.mem_singleton.1 hu]; exact h⟩, by simp, sortB_of (List.pairwise_singleton _ _)⟩

set_option maxRecDepth 100000 in
set_option maxHeartbeats 4000000 in
theorem RPairs_all (n m N c0 : Nat) (W : Int → Int) (x y : Int) (aW : Option Addr) (w : World) (hn : (1 ≤ n ∧ n ≤ 8) ∧ 1 ≤ m ∧ m ≤ 8) (hN : N ≤ 1000) (hW : ∀ y, W y ≠ 0 → 0 ≤ y ∧ y < (N : Int)) (hx : 0 ≤ x ∧ x ≤ 60) (hy : 0 ≤ y ∧ y ≤ 60) (hw : WRow w aW N W) :
    Calls Try.prog 74 #[.int .i64 n, .int .i64 m, .int .i64 x, .int .i64 y, .slice aW N c0] w fun e w' => ∃ v F, e = .returned v ∧ PutIn w' v F ∧ AllTwo n m W x y F ∧ F.length ≤ 100000 ∧ Below w.heap.size w w' := by
  obtain ⟨w2, hw2⟩ : ∃ w2, (w.alloc (Obj.cells #[Value.int .i64 x] 3)).alloc (Obj.cells #[Value.int .i64 y] 3) = w2 := ⟨_, rfl⟩
  have hb2 : Below w.heap.size w w2 := by rw [← hw2]; exact ((Below.refl _ w).alloc (Nat.le_refl _) _).alloc (by simp) _
  have hs2 : w2.heap.size = w.heap.size + 2 := by rw [← hw2]; simp
  have hr1 : RInts w2 w2.heap.size (some ⟨w.heap.size, 0, none⟩) [x] := rints_lit w [x] 3 #[.int .i64 x] rfl (by rw [← hw2]; exact (Below.refl _ _).alloc (by simp) _) (by omega)
  have hr2 : RInts w2 w2.heap.size (some ⟨w.heap.size + 1, 0, none⟩) [y] := by
    have h := rints_lit (w.alloc (Obj.cells #[Value.int .i64 x] 3)) [y] 3 #[.int .i64 y] rfl (W := w2) (by rw [hw2]; exact Below.refl _ _) (by rw [hs2]; simp)
    simpa using h
  have h15 : (([] : List (List Int × List Int)).length + 2 ^ 15 ≤ 100000) := by decide
  have HC := Lib.hid (RGrown_any n m N c0 W ⟨hn.1.2, hn.2.2⟩ hN hW 15 [x] [y] (some ⟨w.heap.size, 0, none⟩) (some ⟨w.heap.size + 1, 0, none⟩) aW 1 1 (.slice none 0 0) [] w2 (die_one hx) (die_one hy) (by simpa using hn.1.1) (by simpa using hn.2.1) (by simp; omega) hr1 hr2 (by simp) (by simp) (hw.below hb2) ⟨fun _ => rfl, OutR.nil_ w2⟩ List.Pairwise.nil (fun p hp => by simp at hp) h15)
  have HB := Lib.hid hb2
  have HW2 := Lib.hid hw2
  clear hr1 hr2 h15 hb2 hs2 hw2 hw hW
  go_enter Try.func74, Try.ntmps74
  go_wp2_with fail
  rw [HW2.out]
  refine HC.out.mono ?_
  rintro e w3 ⟨v, F, rfl, hp, hq, hb3⟩
  have HP := Lib.hid hp
  have HQ := Lib.hid (show AllTwo n m W x y F from ⟨hq.rise, fun p => (hq.mem p).trans ⟨fun h => h.elim (fun h => by simp at h) id, .inr⟩⟩)
  have HL := Lib.hid (show F.length ≤ 100000 from Nat.le_trans hq.more (by decide))
  have HB3 := Lib.hid (keepC HB.out hb3)
  clear hp hq hb3 HC
  go_wp2_with fail
  go_ret
  exact ⟨v, F, rfl, HP.out, HQ.out, HL.out, HB3.out⟩

set_option maxRecDepth 100000 in
set_option maxHeartbeats 4000000 in
theorem RTwins_any (A1 A2 : Option Addr) (a b : List Int) (c1 c2 : Nat) (w : World) (h1 : RInts w w.heap.size A1 a) (h2 : RInts w w.heap.size A2 b) (hc1 : a.length ≤ c1) (hc2 : b.length ≤ c2) (ha : IsDie a) (hb : IsDie b) :
    Calls Try.prog 47 #[.slice A1 a.length c1, .slice A2 b.length c2] w fun e w' => ∃ v, e = .returned v ∧ PutIn w' v (twinsL a b) ∧ (twinsL a b).length ≤ 100000 ∧ Below w.heap.size w w' := by
  have HALL := Lib.hid (twins_all ha hb)
  obtain ⟨ba, oa, xa, hA1, hba, hxa, hca0⟩ := h1.at_ (k := 0) ha.ne
  obtain ⟨bb, ob, xb, hA2, hbb, hxb, hcb0⟩ := h2.at_ (k := 0) hb.ne
  have hca : w.cell? ⟨ba, oa, none⟩ = some (.int .i64 xa) := hca0
  have hcb : w.cell? ⟨bb, ob, none⟩ = some (.int .i64 xb) := hcb0
  subst hA1
  subst hA2
  have eA : a.headD 0 = xa := by have := head_at ha.ne; rw [hxa] at this; injection this with e; exact e.symm
  have eB : b.headD 0 = xb := by have := head_at hb.ne; rw [hxb] at this; injection this with e; exact e.symm
  rw [eA, eB] at HALL
  have hxr := ha.ok.2 xa (List.mem_of_getElem? hxa)
  have hyr := hb.ok.2 xb (List.mem_of_getElem? hxb)
  have hdd : ∀ d ∈ [a, b], IsDie d := (areTwo ha hb).die
  have hM := maxW_le hdd
  have hmx := waysF_max [a, b] hdd 2 (by simp)
  rw [show [a, b].take 2 = [a, b] from rfl] at hmx
  have HWA := Lib.hid (fun (X : World) (hr : RDice X X.heap.size (some ⟨w.heap.size, 0, none⟩) [a, b]) => RWays_any (some ⟨w.heap.size, 0, none⟩) [a, b] 2 X hr (by simp) hdd)
  obtain ⟨M, hM2⟩ : ∃ M, maxW [a, b] + 1 = M := ⟨_, rfl⟩
  rw [hM2] at HWA hmx
  have hM3 : M ≤ 1000 := by simp at hM; omega
  have HPA := Lib.hid (fun (X : World) (g : Nat) (hw : WRow X (some ⟨g, 0, none⟩) M (waysF [a, b])) => RPairs_all a.length b.length M M (waysF [a, b]) xa xb (some ⟨g, 0, none⟩) X ⟨⟨ha.ne, ha.ok.1⟩, hb.ne, hb.ok.1⟩ hM3 hmx hxr hyr hw)
  have RD := Lib.hid (RDice.two (w := w.drew) h1 h2 hc1 hc2 (Nat.le_refl _))
  have HA0 : ∀ o : Obj, (w.drew.alloc o).cell? ⟨ba, oa, none⟩ = some (.int .i64 xa) ∧ (w.drew.alloc o).cell? ⟨bb, ob, none⟩ = some (.int .i64 xb) := fun o =>
    ⟨(World.cell?_of_block (Below.heap_alloc w.drew o ba hba)).trans hca, (World.cell?_of_block (Below.heap_alloc w.drew o bb hbb)).trans hcb⟩
  have HA := Lib.hid HA0
  have la2 : 0 < a.length := ha.ne
  have lb2 : 0 < b.length := hb.ne
  have la3 : (0 : Int) < (a.length : Int) := by omega
  have lb3 : (0 : Int) < (b.length : Int) := by omega
  clear h1 h2 ha hb hxa hxb eA eB hca0 hcb0 hxr hyr hdd hM hmx hM2 hM3 HA0
  go_enter Try.func47, Try.ntmps47
  go_wp2_with fail
  go_region_held3 (fun w' => w'.cell? ⟨ba, oa, none⟩ = some (.int .i64 xa) ∧ w'.cell? ⟨bb, ob, none⟩ = some (.int .i64 xb))
    (first
      | exact ⟨hca, hcb⟩
      | exact HA.out _
      | exact k2
      | exact k3)
    (first
      | (go_at_call 39; refine (HWA.out _ (RD.out.more (by simp))).mono ?_; rintro e w2 ⟨g, rfl, hg, hbx, hB2⟩; have HW2 := Lib.hid (show WRow w2 (some ⟨g, 0, none⟩) M (waysF [a, b]) from ⟨g, rfl, hbx.lt, fun j hj => by rw [hbx.cell j, rowW_at hj]⟩); have k2 : w2.cell? ⟨ba, oa, none⟩ = some (.int .i64 xa) ∧ w2.cell? ⟨bb, ob, none⟩ = some (.int .i64 xb) := ⟨(hB2.cell (p := ⟨ba, oa, none⟩) (by simp; omega)).trans (HA.out _).1, (hB2.cell (p := ⟨bb, ob, none⟩) (by simp; omega)).trans (HA.out _).2⟩; have HB12 := Lib.hid (keepC (((Below.refl w.heap.size w).drew).alloc (Nat.le_refl _) _) hB2); clear hbx hB2 hg)
      | (go_at_call 74; refine (HPA.out _ _ HW2.out).mono ?_; rintro e w3 ⟨v, F, rfl, hp, hq, hl, hB3⟩; have HP := Lib.hid hp; have HQ := Lib.hid (hq.unique HALL.out); have HL := Lib.hid hl; have k3 : w3.cell? ⟨ba, oa, none⟩ = some (.int .i64 xa) ∧ w3.cell? ⟨bb, ob, none⟩ = some (.int .i64 xb) := ⟨(hB3.cell (p := ⟨ba, oa, none⟩) (Nat.lt_of_lt_of_le hba HB12.out.size)).trans k2.1, (hB3.cell (p := ⟨bb, ob, none⟩) (Nat.lt_of_lt_of_le hbb HB12.out.size)).trans k2.2⟩; have HB13 := Lib.hid (keepC HB12.out hB3); clear hp hq hl hB3))
  go_wp2_with fail
  go_ret
  exact ⟨v, rfl, by rw [← HQ.out]; exact HP.out, by rw [← HQ.out]; exact HL.out, HB13.out⟩

set_option maxRecDepth 100000 in
set_option maxHeartbeats 4000000 in
theorem REven_ok (n m : Nat) (hn1 : 1 ≤ n) (hn8 : n ≤ 8) (hm1 : 1 ≤ m) (hm8 : m ≤ 8) (w : World) :
    Calls Try.prog 50 #[.int .i64 n, .int .i64 m] w fun e w' => ∃ v, e = .returned v ∧ PutIn w' v (evenL n m) ∧ (evenL n m).length ≤ 100000 ∧ Below w.heap.size w w' := by
  have hp2 : n * m ≤ 64 := Nat.mul_le_mul hn8 hm8
  have HALL := Lib.hid (show AllTwo n m (evF (n * m)) 0 0 (evenL n m) from (evIn hn1 hn8 hm1 hm8).all)
  obtain ⟨p, hp⟩ : ∃ p, p = n * m := ⟨_, rfl⟩
  have hpi : (n : Int) * (m : Int) = (p : Int) := by rw [hp]; push_cast; rfl
  rw [← hp] at hp2 HALL
  have hmx : ∀ y, evF p y ≠ 0 → 0 ≤ y ∧ y < (p : Int) := fun y hy => by
    unfold evF at hy
    by_cases h : 0 ≤ y ∧ y < (p : Int)
    · exact h
    · rw [if_neg h] at hy
      exact absurd rfl hy
  have HPA := Lib.hid (fun (X : World) (g : Nat) (hw : WRow X (some ⟨g, 0, none⟩) p (evF p)) => RPairs_all n m p p (evF p) 0 0 (some ⟨g, 0, none⟩) X ⟨⟨hn1, hn8⟩, hm1, hm8⟩ (by omega) hmx (by omega) (by omega) hw)
  have hmk := make_i64 p (by omega)
  clear hp hmx
  go_enter Try.func50, Try.ntmps50
  go_wp2_with fail
  go_loopg [6] p (fun gg i wx => ∃ k : Nat, k + gg = p ∧ i = .int .i64 k ∧ Hid (Box wx w.heap.size 2 (rowW p fun y => if 0 ≤ y ∧ y < (k : Int) then 1 else 0)) ∧ Hid (Below w.heap.size w wx))
  case atStart => exact ⟨0, by omega, rfl, Lib.hid (by rw [rowW_same (f := fun y => if 0 ≤ y ∧ y < ((0 : Nat) : Int) then 1 else 0) (g := fun _ => 0) (fun s _ => if_neg (by omega))]; exact Box.new w _ _), Lib.hid ((Below.refl _ w).alloc (Nat.le_refl _) _)⟩
  case round =>
    obtain ⟨k, hk, rfl, HX, HB⟩ := hrel
    cases gk with
    | succ gg =>
      have hkp : (k : Int) < (p : Int) := by omega
      have hk0 : (0 : Int) ≤ (k : Int) := by omega
      have hkn : k < p := by omega
      have hcx := (HX.out.cell k).trans (rowW_at hkn)
      have hfr := HX.out.free k
      clear hmk
      go_wp2_with fail
      have HXN := Lib.hid (show Box (wr.setCell ⟨w.heap.size, k, none⟩ (.int .i64 1)) w.heap.size 2 (rowW p fun y => if 0 ≤ y ∧ y < ((k + 1 : Nat) : Int) then 1 else 0) by
        have h1 := HX.out.put k (.int .i64 1)
        rwa [rowW_put (g := fun y => if 0 ≤ y ∧ y < ((k + 1 : Nat) : Int) then 1 else 0) hkn (fun y hy => by
          by_cases e : y = k
          · subst e
            rw [if_pos rfl, if_pos (by omega)]
          · rw [if_neg e]
            by_cases e2 : y < k
            · rw [if_pos (by omega), if_pos (by omega)]
            · rw [if_neg (by omega), if_neg (by omega)])] at h1)
      have HWN := Lib.hid (HB.out.setCell (p := ⟨w.heap.size, k, none⟩) (Nat.le_refl _) (.int .i64 1))
      go_roundg gg
      case measure => omega
      case rel => exact ⟨k + 1, by omega, by go_num, HXN, HWN⟩
    | zero =>
      obtain rfl : k = p := by omega
      have HWR := Lib.hid (show WRow wr (some ⟨w.heap.size, 0, none⟩) k (evF k) from ⟨w.heap.size, rfl, HX.out.lt, fun j hj => by rw [HX.out.cell j, rowW_at hj]; rfl⟩)
      clear hmk
      go_wp2_with fail
      refine (HPA.out _ _ HWR.out).mono ?_
      rintro e w3 ⟨v, F, rfl, hp, hq, hl, hB3⟩
      have HP := Lib.hid hp
      have HQ := Lib.hid (hq.unique HALL.out)
      have HL := Lib.hid hl
      have HB3 := Lib.hid (keepC HB.out hB3)
      clear hp hq hl hB3
      go_wp2_with fail
      go_ret
      exact ⟨v, rfl, by rw [← HQ.out]; exact HP.out, by rw [← HQ.out]; exact HL.out, HB3.out⟩

end Go.Proofs.Ytkkholagmjcgiaa
