/- The functions Indices, IsRing and IsRank of the reference, where they say true: on lists of distinct indices that beat as they should. -/
import Derived.Test.YtkkholagmjcgiaaBeats2
namespace Go.Proofs.Ytkkholagmjcgiaa
open Go.RowKit

theorem rowB (n : Nat) (f f' : Nat → Bool) (h : ∀ j, j < n → f j = f' j) : rowCells n f = rowCells n f' := by
  apply Array.ext_getElem?
  intro j
  by_cases hj : j < n
  · rw [rowCells_at hj, rowCells_at hj, h j hj]
  · simp [rowCells, hj]
theorem rowB_set (n : Nat) (f : Nat → Bool) (b : Nat) (v : Bool) (hb : b < n) : (rowCells n f).setIfInBounds b (.bool v) = rowCells n fun y => if y = b then v else f y := by
  apply Array.ext_getElem?
  intro j
  by_cases hj : j < n
  · rw [rowCells_at hj]
    by_cases hjb : j = b
    · subst hjb
      simp [rowCells, hj]
    · rw [Array.getElem?_setIfInBounds_ne (Ne.symm hjb), rowCells_at hj]
      simp [hjb]
  · simp [rowCells, hj]

set_option maxHeartbeats 1000000 in
theorem RIndices_ok (A : Option Addr) (zs : List Int) (c n : Nat) (w : World) (hr : RInts w w.heap.size A zs) (hl : zs.length ≤ 1000) (hn : n ≤ 1000) (hin : Inds zs n) (hnd : zs.Nodup) :
    Calls Try.prog 73 #[.slice A zs.length c, .int .i64 n] w fun e w' => e = .returned (.bool true) ∧ Below w.heap.size w w' := by
  have HR := Lib.hid hr
  have HI := Lib.hid hin
  have HN := Lib.hid hnd
  have hmk := make_row n hn
  clear hr hin hnd
  go_enter Try.func73, Try.ntmps73
  go_wp2_with fail
  clear hmk
  obtain ⟨w0, hw0⟩ : ∃ w0, w.alloc (Obj.cells (rowCells n fun _ => false) 4) = w0 := ⟨_, rfl⟩
  have HT0 := Lib.hid (show Box w0 w.heap.size 4 (rowCells n fun y => (zs.take 0).contains (y : Int)) from by
    rw [← hw0]
    exact Box.new w _ _)
  have HB0 := Lib.hid (show Below w.heap.size w w0 from by rw [← hw0]; exact (Below.refl _ w).alloc (Nat.le_refl _) _)
  rw [hw0]
  clear hw0
  go_loopg [6] zs.length (fun g i wx => ∃ k : Nat, k + g = zs.length ∧ i = .int .i64 k ∧ Hid (Box wx w.heap.size 4 (rowCells n fun y => (zs.take k).contains (y : Int))) ∧ Hid (Below w.heap.size w wx))
  case atStart => exact ⟨0, by omega, rfl, HT0, HB0⟩
  case round =>
    obtain ⟨k, hk, rfl, HT1, HB1⟩ := hrel
    have HT := HT1
    have HB := HB1
    clear HT1 HB1 HT0 HB0
    cases gk with
    | zero =>
      obtain rfl : k = zs.length := by omega
      go_wp2_with fail
      go_ret
      exact ⟨rfl, HB.out⟩
    | succ g =>
      have hkl : k < zs.length := by omega
      obtain ⟨b, o, x, hA, hb, hx, hc⟩ := (HR.out.below HB.out).at_ hkl
      subst hA
      have hxr := HI.out x (List.mem_of_getElem? hx)
      obtain ⟨y, rfl⟩ := Int.eq_ofNat_of_zero_le hxr.1
      have hyn : y < n := by omega
      have hlt := HT.out.lt
      have hfr := HT.out.free y
      have HNC := Lib.hid (show (zs.take k).contains (y : Int) = false by
        rw [List.contains_eq_mem, decide_eq_false_iff_not]
        intro hm
        obtain ⟨i, hi, e⟩ := List.mem_iff_getElem.1 hm
        have hik : i < k := by simp at hi; omega
        rw [List.getElem_take] at e
        have e2 := (List.getElem?_eq_some_iff.1 hx).2
        exact List.pairwise_iff_getElem.1 HN.out i k (by omega) hkl hik (e.trans e2.symm))
      have hcy : wr.cell? ⟨w.heap.size, y, none⟩ = some (.bool false) := by rw [HT.out.cell y, rowCells_at hyn, HNC.out]
      have HT2 := Lib.hid (show zs.take (k + 1) = zs.take k ++ [(y : Int)] by
        rw [List.take_succ_eq_append_getElem hkl, (List.getElem?_eq_some_iff.1 hx).2])
      have hy0 : decide ((y : Int) < 0) = false := decide_eq_false (by omega)
      have hyi : (y : Int) < (n : Int) := by omega
      have hy1 : decide ((n : Int) ≤ (y : Int)) = false := decide_eq_false (by omega)
      have hki : (k : Int) < (zs.length : Int) := by omega
      clear hx hxr
      go_wp2_with fail
      go_roundg g
      case measure => omega
      case rel =>
        refine ⟨k + 1, by omega, by go_num, Lib.hid ?_, Lib.hid (HB.out.setCell (p := ⟨w.heap.size, y, none⟩) (Nat.le_refl _) _)⟩
        have h2 := HT.out.put y (.bool true)
        rw [rowB_set n _ y true hyn] at h2
        rw [HT2.out, rowB n _ (fun z => if z = y then true else (zs.take k).contains (z : Int)) fun z _ => ?_]
        · exact h2
        · by_cases e : z = y
          · simp [e]
          · have : ¬ (z : Int) = (y : Int) := by omega
            simp [e, this]

/-- What the reference's Beats says of two of some dice. -/
theorem beats_at {ds : List (List Int)} {a b : Nat} {d1 d2 : List Int} (h1 : ds[a]? = some d1) (h2 : ds[b]? = some d2) : decide (lessL (rollL [d1, d2] []) < moreL (rollL [d1, d2] [])) = bt ds a b := by
  rw [bt_is]
  simp [List.getD, h1, h2]

set_option maxRecDepth 100000 in
set_option maxHeartbeats 4000000 in
theorem RIsRank_ok (A A2 : Option Addr) (ds : List (List Int)) (l : List Int) (c c2 : Nat) (w : World) (hd : RDice w w.heap.size A ds) (hr : RInts w w.heap.size A2 l) (h6 : ds.length ≤ 6) (h8 : ∀ d ∈ ds, d.length ≤ 8) (hl : l.length = ds.length) (hin : Inds l ds.length) (hnd : l.Nodup)
    (hno : ∀ (i k : Nat) (a b : Nat), k < i → l[i]? = some (a : Int) → l[k]? = some (b : Int) → bt ds a b = false) :
    Calls Try.prog 44 #[.slice A ds.length c, .slice A2 l.length c2] w fun e w' => e = .returned (.bool true) ∧ Below w.heap.size w w' := by
  have HX := Lib.hid (RIndices_ok A2 l c2 ds.length w hr (by omega) (by omega) hin hnd)
  have HD := Lib.hid hd
  have HR := Lib.hid hr
  have HI := Lib.hid hin
  have H8 := Lib.hid h8
  have HNO := Lib.hid hno
  obtain ⟨n, hn⟩ : ∃ n, ds.length = n := ⟨_, rfl⟩
  have HL := Lib.hid hl
  have HN := Lib.hid hn
  rw [hn] at HX HI h6
  rw [show l.length = n by omega] at HX ⊢
  rw [hn]
  clear hd hr hin hnd h8 hno hl hn
  go_enter Try.func44, Try.ntmps44
  go_wp2_with fail
  refine HX.out.mono ?_
  rintro e w1 ⟨rfl, hb1⟩
  have HB1 := Lib.hid hb1
  clear hb1 HX
  go_wp2_with fail
  go_loopg [5] n (fun gg i wx => ∃ k : Nat, k + gg = n ∧ i = .int .i64 k ∧ Hid (Below w.heap.size w wx))
  case atStart => exact ⟨0, by omega, rfl, HB1⟩
  case round =>
    obtain ⟨i, hi, rfl, HW1⟩ := hrel
    have HW := HW1
    clear HW1 HB1
    cases gk with
    | zero =>
      obtain rfl : i = n := by omega
      go_wp2_with fail
      go_ret
      exact ⟨rfl, HW.out⟩
    | succ gg =>
      have hil : i < n := by omega
      have hi1 : (i : Int) < (n : Int) := by omega
      go_wp2_with fail
      go_loopg [6] i (fun gg k wx => ∃ j : Nat, j + gg = i ∧ k = .int .i64 j ∧ Hid (Below w.heap.size w wx))
      case atStart => exact ⟨0, by omega, rfl, HW⟩
      case round =>
        obtain ⟨k, hk, rfl, HW3⟩ := hrel
        have HW2 := HW3
        clear HW3 HW
        cases gk with
        | zero =>
          obtain rfl : k = i := by omega
          go_wp2_with fail
          go_roundg gg
          case measure => omega
          case rel => exact ⟨k + 1, by omega, by go_num, HW2⟩
        | succ gg2 =>
          have hki : k < i := by omega
          have hLn := HL.out.trans HN.out
          obtain ⟨b1, o1, x, hA, hb1, hx, hcx⟩ := (HR.out.below HW2.out).at_ (k := i) (by omega)
          subst hA
          obtain ⟨_, _, y, hA, _, hy, hcy⟩ := (HR.out.below HW2.out).at_ (k := k) (by omega)
          cases hA
          have hxr := HI.out x (List.mem_of_getElem? hx)
          have hyr := HI.out y (List.mem_of_getElem? hy)
          obtain ⟨p, rfl⟩ := Int.eq_ofNat_of_zero_le hxr.1
          obtain ⟨q, rfl⟩ := Int.eq_ofNat_of_zero_le hyr.1
          have hpn : p < n := by omega
          have hqn : q < n := by omega
          have hpn1 : (p : Int) < (n : Int) := by omega
          have hqn1 : (q : Int) < (n : Int) := by omega
          have hki1 : (k : Int) < (i : Int) := by omega
          have hkn1 : (k : Int) < (n : Int) := by omega
          have hbt := HNO.out i k p q hki hx hy
          have hsz := HW2.out.size
          obtain ⟨b2, o2, a1, c3, d1, hA, hb2, hx1, hc1, hd1, hr1⟩ := (HD.out.below HW2.out).at_ (k := p) (by rw [HN.out]; exact hpn)
          subst hA
          obtain ⟨_, _, a2, c4, d2, hA, _, hx2, hc2, hd2, hr2⟩ := (HD.out.below HW2.out).at_ (k := q) (by rw [HN.out]; exact hqn)
          cases hA
          have hl1 : d1.length ≤ 8 := H8.out d1 (List.mem_of_getElem? hx1)
          have hl2 : d2.length ≤ 8 := H8.out d2 (List.mem_of_getElem? hx2)
          have HCB := Lib.hid (fun m => RBeats_any a1 a2 d1 d2 c3 c4 w.heap.size (wr.drewN m) (hr1.drewN m) (hr2.drewN m) (by omega) (by omega))
          rw [beats_at hx1 hx2, hbt] at HCB
          clear hx hy hx1 hx2 hr1 hr2 hxr hyr hbt hLn
          go_wp2_with fail
          go_quiet ((go_at_call 41; exact quiet_d0 (HCB.out _)))
          go_wp2_with fail
          go_roundg gg2
          case measure => omega
          case rel => exact ⟨k + 1, by omega, by go_num, Lib.hid (Below.drewN_ HW2.out _)⟩

set_option maxRecDepth 100000 in
set_option maxHeartbeats 4000000 in
theorem RIsRing_ok (A A2 : Option Addr) (ds : List (List Int)) (l : List Int) (c c2 : Nat) (w : World) (hd : RDice w w.heap.size A ds) (hr : RInts w w.heap.size A2 l) (h6 : ds.length ≤ 6) (h8 : ∀ d ∈ ds, d.length ≤ 8) (h3 : 3 ≤ l.length) (hl : l.length ≤ 1000) (hin : Inds l ds.length) (hnd : l.Nodup)
    (hno : ∀ (i : Nat) (a b : Nat), i < l.length → l[i]? = some (a : Int) → l[(i + 1) % l.length]? = some (b : Int) → bt ds a b = true) :
    Calls Try.prog 43 #[.slice A ds.length c, .slice A2 l.length c2] w fun e w' => e = .returned (.bool true) ∧ Below w.heap.size w w' := by
  have HX := Lib.hid (RIndices_ok A2 l c2 ds.length w hr hl (by omega) hin hnd)
  have HD := Lib.hid hd
  have HR := Lib.hid hr
  have HI := Lib.hid hin
  have H8 := Lib.hid h8
  have HNO := Lib.hid hno
  obtain ⟨n, hn⟩ : ∃ n, ds.length = n := ⟨_, rfl⟩
  obtain ⟨m, hm⟩ : ∃ m, l.length = m := ⟨_, rfl⟩
  have HL := Lib.hid hm
  have HN := Lib.hid hn
  rw [hn] at HX HI h6
  rw [hm] at HX HNO h3 hl ⊢
  rw [hn]
  have hm3 : decide ((m : Int) < 3) = false := decide_eq_false (by omega)
  clear hd hr hin hnd h8 hno hn hm
  go_enter Try.func43, Try.ntmps43
  go_wp2_with fail
  refine HX.out.mono ?_
  rintro e w1 ⟨rfl, hb1⟩
  have HB1 := Lib.hid hb1
  clear hb1 HX
  go_wp2_with fail
  clear hm3
  go_loopg [5] m (fun gg i wx => ∃ k : Nat, k + gg = m ∧ i = .int .i64 k ∧ Hid (Below w.heap.size w wx))
  case atStart => exact ⟨0, by omega, rfl, HB1⟩
  case round =>
    obtain ⟨i, hi, rfl, HW1⟩ := hrel
    have HW2 := HW1
    clear HW1 HB1
    cases gk with
    | zero =>
      obtain rfl : i = m := by omega
      go_wp2_with fail
      go_ret
      exact ⟨rfl, HW2.out⟩
    | succ gg =>
      have hil : i < m := by omega
      have hi1 : (i : Int) < (m : Int) := by omega
      have hLn := HL.out
      obtain ⟨k, hk⟩ : ∃ k, (i + 1) % m = k := ⟨_, rfl⟩
      have hkm : k < m := by rw [← hk]; exact Nat.mod_lt _ (by omega)
      have HK := Lib.hid hk
      have hki : Int.tmod ((i : Int) + 1) (m : Int) = (k : Int) := by rw [← hk]; exact (Int.ofNat_tmod (i + 1) m).symm ▸ rfl
      obtain ⟨b1, o1, x, hA, hb1, hx, hcx⟩ := (HR.out.below HW2.out).at_ (k := i) (by omega)
      subst hA
      obtain ⟨_, _, y, hA, _, hy, hcy⟩ := (HR.out.below HW2.out).at_ (k := k) (by omega)
      cases hA
      have hxr := HI.out x (List.mem_of_getElem? hx)
      have hyr := HI.out y (List.mem_of_getElem? hy)
      obtain ⟨p, rfl⟩ := Int.eq_ofNat_of_zero_le hxr.1
      obtain ⟨q, rfl⟩ := Int.eq_ofNat_of_zero_le hyr.1
      have hpn : p < n := by omega
      have hqn : q < n := by omega
      have hpn1 : (p : Int) < (n : Int) := by omega
      have hqn1 : (q : Int) < (n : Int) := by omega
      have hkn1 : (k : Int) < (m : Int) := by omega
      have hbt := HNO.out i p q hil hx (by rw [hk]; exact hy)
      have hsz := HW2.out.size
      obtain ⟨b2, o2, a1, c3, d1, hA, hb2, hx1, hc1, hd1, hr1⟩ := (HD.out.below HW2.out).at_ (k := p) (by rw [HN.out]; exact hpn)
      subst hA
      obtain ⟨_, _, a2, c4, d2, hA, _, hx2, hc2, hd2, hr2⟩ := (HD.out.below HW2.out).at_ (k := q) (by rw [HN.out]; exact hqn)
      cases hA
      have hl1 : d1.length ≤ 8 := H8.out d1 (List.mem_of_getElem? hx1)
      have hl2 : d2.length ≤ 8 := H8.out d2 (List.mem_of_getElem? hx2)
      have HCB := Lib.hid (fun j => RBeats_any a1 a2 d1 d2 c3 c4 w.heap.size (wr.drewN j) (hr1.drewN j) (hr2.drewN j) (by omega) (by omega))
      rw [beats_at hx1 hx2, hbt] at HCB
      have hm0 : ((m : Int) == 0) = false := by rw [beq_eq_false_iff_ne]; omega
      have hwr : IntKind.i64.wrap ((i : Int) + 1) = (i : Int) + 1 := IntWalk.i64_in _ (by omega)
      have hwk : IntKind.i64.wrap (k : Int) = (k : Int) := IntWalk.i64_in _ (by omega)
      clear hx hy hx1 hx2 hr1 hr2 hxr hyr hbt hLn hk
      go_wp2_with fail
      go_quiet ((go_at_call 41; exact quiet_d0 (HCB.out _)))
      clear hwr hwk hki hm0
      go_wp2_with fail
      go_roundg gg
      case measure => omega
      case rel => exact ⟨i + 1, by omega, by go_num, Lib.hid (Below.drewN_ HW2.out _)⟩

end Go.Proofs.Ytkkholagmjcgiaa
