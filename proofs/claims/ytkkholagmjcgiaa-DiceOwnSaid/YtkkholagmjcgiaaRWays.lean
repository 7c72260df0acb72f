/- The reference's function Ways: the ways of all sums of some dice, in a row of its own. -/
import Derived.Test.YtkkholagmjcgiaaWaysL
import Derived.Test.YtkkholagmjcgiaaRow
import Derived.Deep.LoopGhost
import Derived.StillTailTactics
import Derived.IntWalk
namespace Go.Proofs.Ytkkholagmjcgiaa
open Go.RowKit

/-- A row of numbers, as cells. -/
def rowW (n : Nat) (f : Int → Int) : Array Value := (Array.range n).map fun s : Nat => .int .i64 (f s)
theorem rowW_at {n : Nat} {f : Int → Int} {s : Nat} (h : s < n) : (rowW n f)[s]? = some (.int .i64 (f s)) := by simp [rowW, h]
theorem rowW_put {n : Nat} {f g : Int → Int} {j : Nat} {z : Int} (hj : j < n) (h : ∀ s : Nat, s < n → g s = if s = j then z else f s) : (rowW n f).setIfInBounds j (.int .i64 z) = rowW n g := by
  apply Array.ext_getElem?
  intro i
  rw [Array.getElem?_setIfInBounds]
  by_cases hi : i < n
  · rw [rowW_at hi, rowW_at hi, h i hi]
    by_cases e : j = i
    · subst e
      rw [if_pos rfl, if_pos (by simp [rowW, hj]), if_pos rfl]
    · rw [if_neg e, if_neg (fun h => e h.symm)]
  · have e : j ≠ i := by omega
    rw [if_neg e]
    simp [rowW, hi]
theorem rowW_same {n : Nat} {f g : Int → Int} (h : ∀ s : Nat, s < n → f s = g s) : rowW n f = rowW n g := by
  apply Array.ext_getElem?
  intro i
  by_cases hi : i < n
  · rw [rowW_at hi, rowW_at hi, h i hi]
  · simp [rowW, hi]
theorem rowW_one (ds : List (List Int)) : #[Value.int .i64 1] = rowW (maxW (ds.take 0) + 1) (waysF (ds.take 0)) := by
  rw [List.take_zero]
  apply Array.ext_getElem?
  intro i
  cases i with
  | zero => rw [rowW_at (by omega)]; rfl
  | succ i => simp [rowW, maxW]
theorem make_i64 (n : Nat) (hn : n ≤ 100000) : ∀ w : World, (Instr.makeSlice 42 (.int .i64 n) (.int .i64 n)).run Try.prog w = .ok (.slice (some ⟨w.heap.size, 0, none⟩) n n) (w.alloc (.cells (rowW n fun _ => 0) 2)) := by
  obtain ⟨i0, hi, hz0, hz1, hz2⟩ := info_parts (show (Try.prog.info? 2).map (fun i => (i.zero, i.size, i.bytes)) = some (some (.int .i64 0), 1, 8) from by kernel_rfl)
  intro w
  have := run_make (P := Try.prog) w 42 2 i0 (.int .i64 0) Try.underlying42 hi hz0 .i64 .i64 n n (by omega) (by omega) (by rw [hz2]; omega) (by omega)
  rw [hz1] at this
  have e : madeCells (Value.int .i64 0).cells (n * 1) = rowW n fun _ => 0 := by
    apply Array.ext_getElem?
    intro j
    by_cases hj : j < n
    · rw [rowW_at hj]
      simp [madeCells, Value.cells, hj, Nat.mod_one]
    · simp [madeCells, rowW, hj]
  rw [Nat.mul_one] at e
  simpa [e] using this

set_option maxRecDepth 100000 in
set_option maxHeartbeats 4000000 in
theorem RWays_any (A : Option Addr) (ds : List (List Int)) (c : Nat) (w : World) (hr : RDice w w.heap.size A ds) (hl : ds.length ≤ 6) (hd : ∀ d ∈ ds, IsDie d) :
    Calls Try.prog 39 #[.slice A ds.length c] w fun e w' => ∃ g, e = .returned (.slice (some ⟨g, 0, none⟩) (maxW ds + 1) (maxW ds + 1)) ∧ w.heap.size ≤ g ∧ Box w' g 2 (rowW (maxW ds + 1) (waysF ds)) ∧ Below w.heap.size w w' := by
  have HR := Lib.hid hr
  have HD := Lib.hid hd
  have HOK := Lib.hid (waysOk_take ds (fun d h => (hd d h).ok))
  have HMX := Lib.hid (waysF_max ds hd)
  clear hr hd
  go_enter Try.func39, Try.ntmps39
  go_wp2_with fail
  go_loopg [3, 4] ds.length (fun gg v i wx => ∃ (k g : Nat), k + gg = ds.length ∧ i = .int .i64 k ∧ v = .slice (some ⟨g, 0, none⟩) (maxW (ds.take k) + 1) (maxW (ds.take k) + 1) ∧ w.heap.size ≤ g ∧ Hid (maxW (ds.take k) ≤ 60 * k) ∧ Hid (Box wx g 2 (rowW (maxW (ds.take k) + 1) (waysF (ds.take k)))) ∧ Hid (Below w.heap.size w wx))
  case atStart => exact ⟨0, w.heap.size, by omega, rfl, rfl, Nat.le_refl _, Lib.hid (by simp [maxW]), Lib.hid (by rw [← rowW_one]; exact Box.new w _ _), Lib.hid ((Below.refl _ w).alloc (Nat.le_refl _) _)⟩
  case round =>
    obtain ⟨k, g, hk, rfl, rfl, hg, HM, HB, HW⟩ := hrel
    cases gk with
    | zero =>
      obtain rfl : k = ds.length := by omega
      have HB2 := Lib.hid (show Box wr g 2 (rowW (maxW ds + 1) (waysF ds)) by have := HB.out; rwa [List.take_length] at this)
      rw [List.take_length]
      go_wp2_with fail
      go_ret
      exact ⟨g, rfl, hg, HB2.out, HW.out⟩
    | succ gg =>
      obtain ⟨b, o, a, cc, d, hA, hb, hx, hcx, hdc, hrd⟩ := HR.out.at_ (k := k) (by omega)
      subst hA
      have HDI := Lib.hid (HD.out d (List.mem_of_getElem? hx))
      have HMS := Lib.hid (maxW_succ hx)
      have HF := Lib.hid (waysF_snoc ds k d hx)
      have hlast := die_last HDI.out
      have hne := HDI.out.ne
      have hl8 := HDI.out.ok.1
      obtain ⟨n, hn⟩ : ∃ n, maxW (ds.take k) + 1 = n := ⟨_, rfl⟩
      obtain ⟨F, hF⟩ : ∃ F, waysF (ds.take k) = F := ⟨_, rfl⟩
      have HFB := Lib.hid (show ∀ y, 0 ≤ F y ∧ F y ≤ 262144 from fun y => by
        have h1 := (HOK.out k (by omega)).1 y
        have h2 : (8 : Nat) ^ k ≤ 8 ^ 6 := Nat.pow_le_pow_right (by decide) (by omega)
        rw [hF] at h1
        omega)
      have HFS := Lib.hid (show ∀ y, F y ≠ 0 → 0 ≤ y ∧ y < (n : Int) from fun y h => by
        have h1 := HMX.out k (by omega) y (by rw [hF]; exact h)
        rw [hn] at h1
        exact h1)
      have hn361 : n ≤ 361 := by have := HM.out; omega
      have hn1 : 1 ≤ n := by omega
      obtain ⟨z, hz⟩ : ∃ z, lastN d = z := ⟨_, rfl⟩
      rw [hz] at hlast HMS
      have HLT := Lib.hid hlast.2.2
      have hz60 := hlast.2.1
      rw [hF, hn] at HB
      rw [hF] at HF
      have HNX := Lib.hid (show maxW (ds.take (k + 1)) + 1 = n + z by rw [HMS.out]; omega)
      have HM60 := Lib.hid (show maxW (ds.take (k + 1)) ≤ 60 * (k + 1) by rw [HMS.out]; have := HM.out; omega)
      rw [hn]
      have hcx2 : wr.cell? ⟨b, o + k, none⟩ = some (.slice a d.length cc) := (HW.out.cell (p := ⟨b, o + k, none⟩) hb).trans hcx
      have HRD := Lib.hid hrd
      obtain ⟨bl, ol, xl, hal, hbl, hxl, hcl⟩ := (hrd.below HW.out).at_ (k := d.length - 1) (by omega)
      subst hal
      have HCX := Lib.hid hcx
      have hxz : xl = (z : Int) := by
        have h1 := hlast.1
        simp only [List.getD, hxl, Option.getD_some] at h1
        exact h1
      subst hxz
      have hdl1 : ((d.length - 1 : Nat) : Int) = (d.length : Int) - 1 := by omega
      have hki : (k : Int) < (ds.length : Int) := by omega
      have hk0 : (0 : Int) ≤ (k : Int) := by omega
      have hmk := make_i64 (n + z) (by omega)
      rw [show ((n + z : Nat) : Int) = (n : Int) + (z : Int) from by omega] at hmk
      clear hx hcx hrd hlast hz hn hF hxl HM HOK HMX hdc HMS
      have hwl : IntKind.i64.wrap ((d.length : Int) - 1) = ((d.length - 1 : Nat) : Int) := by rw [IntWalk.i64_in _ (by omega)]; omega
      have hdlt : ((d.length - 1 : Nat) : Int) < (d.length : Int) := by omega
      have hdl0 : (0 : Int) ≤ ((d.length - 1 : Nat) : Int) := by omega
      have hwn : IntKind.i64.wrap ((n : Int) + (z : Int)) = (n : Int) + (z : Int) := IntWalk.i64_in _ (by omega)
      clear hdl1
      go_wp2_with fail
      go_still_tail 15, (by kernel_rfl)
      go_wp2_with fail
      clear hwl hdlt hdl0 hwn hmk hcl hcx2
      obtain ⟨w2, hw2⟩ : ∃ w2, (wr.alloc (Obj.cells (rowW (n + z) fun _ => 0) 2)).drew = w2 := ⟨_, rfl⟩
      have HG := Lib.hid (show Box w2 g 2 (rowW n F) by rw [← hw2]; exact HB.out.alloc _)
      have HX0 := Lib.hid (show Box w2 wr.heap.size 2 (rowW (n + z) (accS F d 0)) by
        rw [← hw2, rowW_same (f := accS F d 0) (g := fun _ => 0) (fun s _ => accS_zero F d s)]
        exact Box.new wr _ _)
      have HW2 := Lib.hid (show Below w.heap.size w w2 by rw [← hw2]; exact (HW.out.alloc HW.out.size _).drew)
      have hgg : g < wr.heap.size := HB.out.lt
      have hwg := HW.out.size
      obtain ⟨g2, hg2⟩ : ∃ g2, wr.heap.size = g2 := ⟨_, rfl⟩
      rw [hg2] at HX0 hgg hwg
      rw [hw2, hg2]
      clear hw2 hg2 HB HW
      go_loopg [6] n (fun g1 i wx => ∃ s : Nat, s + g1 = n ∧ i = .int .i64 s ∧ Hid (Box wx g 2 (rowW n F)) ∧ Hid (Box wx g2 2 (rowW (n + z) (accS F d s))) ∧ Hid (Below w.heap.size w wx))
      case atStart => exact ⟨0, by omega, rfl, HG, HX0, HW2⟩
      case round =>
        clear HG HX0 HW2
        obtain ⟨s, hs, rfl, HG, HX, HW⟩ := hrel
        cases gk with
        | zero =>
          obtain rfl : s = n := by omega
          have HXE := Lib.hid (show Box wr g2 2 (rowW (s + z) (waysF (ds.take (k + 1)))) by
            have h1 := HX.out
            rwa [rowW_same (f := accS F d s) (g := waysF (ds.take (k + 1))) (fun y _ => by rw [HF.out]; exact accS_all HFS.out y d)] at h1)
          go_wp2_with fail
          go_roundg gg
          case measure => omega
          case rel => exact ⟨k + 1, g2, by omega, by go_num, by rw [HNX.out], by omega, HM60, by rw [HNX.out]; exact HXE, HW⟩
        | succ g1 =>
          have hsn : (s : Int) < (n : Int) := by omega
          have hs0 : (0 : Int) ≤ (s : Int) := by omega
          go_wp2_with fail
          go_loopg [7] d.length (fun g3 i wx => ∃ j : Nat, j + g3 = d.length ∧ i = .int .i64 j ∧ Hid (Box wx g 2 (rowW n F)) ∧ Hid (Box wx g2 2 (rowW (n + z) (fun y => accS F d s y + putS F (d.take j) s y))) ∧ Hid (Below w.heap.size w wx))
          case atStart => exact ⟨0, by omega, rfl, HG, Lib.hid (by rw [rowW_same (g := accS F d s) (fun y _ => by rw [putS_zero, Int.add_zero])]; exact HX.out), HW⟩
          case round =>
            clear HG HX HW
            obtain ⟨j, hj, rfl, HG, HX, HW⟩ := hrel
            have hcx2 : wr.cell? ⟨b, o + k, none⟩ = some (.slice (some ⟨bl, ol, none⟩) d.length cc) := (HW.out.cell (p := ⟨b, o + k, none⟩) hb).trans HCX.out
            cases gk with
            | zero =>
              obtain rfl : j = d.length := by omega
              have HXE := Lib.hid (show Box wr g2 2 (rowW (n + z) (accS F d (s + 1))) by
                have h1 := HX.out
                rwa [rowW_same (g := accS F d (s + 1)) (fun y _ => by rw [accS_succ, List.take_length])] at h1)
              go_wp2_with fail
              go_roundg g1
              case measure => omega
              case rel => exact ⟨s + 1, by omega, by go_num, HG, HXE, HW⟩
            | succ g3 =>
              obtain ⟨_, _, x, hA2, _, hx, hcs⟩ := (HRD.out.below HW.out).at_ (k := j) (by omega)
              cases hA2
              have hxr := HLT.out x (List.mem_of_getElem? hx)
              have HPS := Lib.hid (fun y => putS_succ (f := F) hx s y)
              obtain ⟨xn, rfl⟩ := Int.eq_ofNat_of_zero_le hxr.1
              have hxz : xn ≤ z := by omega
              have hjd : (j : Int) < (d.length : Int) := by omega
              have hj0 : (0 : Int) ≤ (j : Int) := by omega
              have hcg := (HG.out.cell s).trans (rowW_at (by omega))
              have hcx3 := (HX.out.cell (s + xn)).trans (rowW_at (by omega))
              have hfr := HX.out.free (s + xn)
              obtain ⟨u0, hu0⟩ : ∃ u0, F (s : Int) = u0 := ⟨_, rfl⟩
              obtain ⟨v0, hv0⟩ : ∃ v0, accS F d s ((s + xn : Nat) : Int) + putS F (d.take j) s ((s + xn : Nat) : Int) = v0 := ⟨_, rfl⟩
              have hub := HFB.out s
              rw [hu0] at hcg hub
              rw [hv0] at hcx3
              have hvb : 0 ≤ v0 ∧ v0 ≤ 2000000000 := by
                have h1 := accS_in HFB.out d ((s + xn : Nat) : Int) s
                have h2 := putS_in HFB.out s ((s + xn : Nat) : Int) (d.take j)
                have h3 : ((d.take j).length : Int) * 262144 ≤ 8 * 262144 := Int.mul_le_mul_of_nonneg_right (by rw [List.length_take]; omega) (by decide)
                have h4 : (d.length : Int) * 262144 ≤ 8 * 262144 := Int.mul_le_mul_of_nonneg_right (by omega) (by decide)
                have h5 : (s : Int) * ((d.length : Int) * 262144) ≤ 361 * (8 * 262144) := Int.mul_le_mul (by omega) h4 (Int.mul_nonneg (by omega) (by decide)) (by decide)
                omega
              have HUV := Lib.hid (And.intro hu0 hv0)
              clear hu0 hv0 hx hxr
              have hsx0 : (0 : Int) ≤ (s : Int) + (xn : Int) := by omega
              have hsx1 : (s : Int) + (xn : Int) < ((n + z : Nat) : Int) := by omega
              have hsx3 : (s : Int) + (xn : Int) < (n : Int) + (z : Int) := by omega
              have hsx4 : s + xn < n + z := by omega
              have hsx2 : ((s : Int) + (xn : Int)).toNat = s + xn := by omega
              have hwx : IntKind.i64.wrap ((s : Int) + (xn : Int)) = (s : Int) + (xn : Int) := IntWalk.i64_in _ (by omega)
              have hwv : IntKind.i64.wrap (v0 + u0) = v0 + u0 := IntWalk.i64_in _ (by omega)
              go_wp2_with fail
              go_still_tail 27, (by kernel_rfl)
              go_wp2_with fail
              clear hwx hwv hsx2
              have HXN := Lib.hid (show Box (wr.setCell ⟨g2, s + xn, none⟩ (.int .i64 (v0 + u0))) g2 2 (rowW (n + z) (fun y => accS F d s y + putS F (d.take (j + 1)) s y)) by
                have h1 := HX.out.put (s + xn) (.int .i64 (v0 + u0))
                rwa [rowW_put (g := fun y => accS F d s y + putS F (d.take (j + 1)) s y) hsx4 (fun y hy => by
                  show accS F d s y + putS F (d.take (j + 1)) s y = _
                  rw [HPS.out]
                  by_cases e : y = s + xn
                  · subst e
                    rw [if_pos (by omega), if_pos rfl, ← HUV.out.1, ← HUV.out.2]
                    omega
                  · rw [if_neg (by omega), if_neg e, Int.add_zero])] at h1)
              have HGN := Lib.hid (HG.out.far (p := ⟨g2, s + xn, none⟩) (by show g ≠ g2; omega) (.int .i64 (v0 + u0)))
              have HWN := Lib.hid (HW.out.setCell (p := ⟨g2, s + xn, none⟩) hwg (.int .i64 (v0 + u0)))
              go_roundg g3
              case measure => omega
              case rel => exact ⟨j + 1, by omega, by go_num, Lib.hid (HGN.out.drewN 1), Lib.hid (HXN.out.drewN 1), Lib.hid HWN.out.drew⟩
end Go.Proofs.Ytkkholagmjcgiaa
