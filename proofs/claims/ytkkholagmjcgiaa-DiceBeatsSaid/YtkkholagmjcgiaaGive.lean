/- The function giveBack of package dice: each sum of the side with one of the list gets one way more; nothing but the map turns. -/
import Derived.Test.YtkkholagmjcgiaaMap
namespace Go.Proofs.Ytkkholagmjcgiaa
open Go.RowKit Go.Maps

/-- One way more for the side with each of the list. -/
def give (f : Int → Int) (side : Int) (zs : List Int) : Int → Int := zs.foldl (fun g s => upd g (side + s) (g (side + s) + 1)) f
theorem give_snoc (f : Int → Int) (side : Int) (zs : List Int) (k : Nat) (z : Int) (h : zs[k]? = some z) : give f side (zs.take (k + 1)) = upd (give f side (zs.take k)) (side + z) (give f side (zs.take k) (side + z) + 1) := by
  have hk : k < zs.length := (List.getElem?_eq_some_iff.1 h).1
  have he : zs[k] = z := (List.getElem?_eq_some_iff.1 h).2
  rw [List.take_succ_eq_append_getElem hk, give, List.foldl_append, he]
  rfl
theorem give_le (side : Int) : ∀ (zs : List Int) (f : Int → Int) (M : Int), (∀ y, 0 ≤ f y ∧ f y ≤ M) → ∀ y, 0 ≤ give f side zs y ∧ give f side zs y ≤ M + zs.length
  | [], f, M, h, y => by have := h y; simp [give]; omega
  | z :: r, f, M, h, y => by
    have h2 : ∀ y, 0 ≤ upd f (side + z) (f (side + z) + 1) y ∧ upd f (side + z) (f (side + z) + 1) y ≤ M + 1 := fun y => by
      have h1 := h y
      have h3 := h (side + z)
      unfold upd
      split <;> omega
    have h4 := give_le side r _ _ h2 y
    show 0 ≤ give (upd f (side + z) (f (side + z) + 1)) side r y ∧ give (upd f (side + z) (f (side + z) + 1)) side r y ≤ _
    simp only [List.length_cons]
    omega

set_option maxHeartbeats 400000 in
theorem giveBack_any (M N : Nat) (side : Int) (A : Option Addr) (zs : List Int) (c B : Nat) (f : Int → Int) (S : Int → Bool) (w : World) (hm : MapF w M N f S) (hN : N < 1000000000) (hr : RInts w B A zs) (hl : zs.length ≤ 1000)
    (hs : -1000000 ≤ side ∧ side ≤ 1000000) (hz : ∀ z ∈ zs, 0 ≤ z ∧ z ≤ 1000000) (hf : ∀ y, 0 ≤ f y ∧ f y ≤ 1000000000) (hS : ∀ z ∈ zs, S (side + z) = true)
    (hMA : ∀ b o, A = some ⟨b, o, none⟩ → b ≠ M) (hBs : B ≤ w.heap.size) :
    Calls Try.prog 100 #[.map (some M), .int .i64 side, .slice A zs.length c] w fun e w' => e = .returned (.tuple #[]) ∧ MapF w' M N (give f side zs) S ∧ w.grownBy w' (some M) := by
  have HR := Lib.hid hr
  have HF := Lib.hid hf
  have HS := Lib.hid hS
  have HZ := Lib.hid hz
  have HA := Lib.hid hMA
  obtain ⟨hs1, hs2⟩ := hs
  have HM := Lib.hid hm
  clear hr hf hS hz hMA hm
  go_enter Try.func100, Try.ntmps100
  go_wp2_with fail
  go_loopw [10] (fun i wr => ∃ (k : Nat), k ≤ zs.length ∧ i = .int .i64 k ∧ MapF wr M N (give f side (zs.take k)) S ∧ w.grownBy wr (some M)) (fun i _ => zs.length - (intOf i).toNat)
  case atStart => exact ⟨0, by omega, rfl, HM.out, World.grownBy.refl w _⟩
  case round =>
    obtain ⟨k, hk, rfl, hmap, hg⟩ := hrel
    by_cases hlt : k < zs.length
    · obtain ⟨b, o, z, hA, hb, hz, hc0⟩ := HR.out.at_ hlt
      have hbM := HA.out b o hA
      subst hA
      have hc : wr.cell? ⟨b, o + k, none⟩ = some (.int .i64 z) := (World.cell?_of_block (hg.block b (by omega) (by simpa using hbM))).trans hc0
      have hzr := HZ.out z (List.mem_of_getElem? hz)
      have HSz := Lib.hid (HS.out z (List.mem_of_getElem? hz))
      have HST := Lib.hid (give_snoc f side zs k z hz)
      have hgl := give_le side (zs.take k) f 1000000000 HF.out (side + z)
      have hll : (zs.take k).length ≤ k := List.length_take_le _ _
      generalize give f side (zs.take k) = g at hmap HST hgl
      have HW1 := Lib.hid (show W64 (side + z) from ⟨by omega, by omega⟩)
      have HW2 := Lib.hid (show W64 (g (side + z) + 1) from ⟨by omega, by omega⟩)
      clear hc0 hz hbM
      go_wp2_with (first
        | (at_lookup; refine wpList_look _ rfl _ _ rfl rfl hmap _ rfl HW1.out ?_)
        | (at_mapUpdate; refine wpList_put _ rfl _ _ _ rfl rfl hmap hN _ _ rfl rfl HW1.out HW2.out HSz.out ?_; intro w2 hmap2 hg2))
      have hgg := hg.andThen hg2 (fun j hj => .inr hj)
      have HM2 := Lib.hid hmap2
      clear hmap2
      go_roundw
      case rel => exact ⟨k + 1, by omega, by go_num, (by rw [HST.out]; exact HM2.out), hgg⟩
      case measure => simp [intOf]; omega
    · obtain rfl : k = zs.length := by omega
      rw [List.take_length] at hmap
      go_wp2_with fail
      go_end0
      exact ⟨rfl, hmap, hg⟩

end Go.Proofs.Ytkkholagmjcgiaa
