/- The function Sums of package dice, at dice: the sums in rising order, each with its ways. -/
import Derived.Test.YtkkholagmjcgiaaWays
import Derived.Test.YtkkholagmjcgiaaResults
import Derived.Test.YtkkholagmjcgiaaSorted
import Derived.Test.YtkkholagmjcgiaaPairs
import Derived.Deep.LoopGhost
import Derived.RangeFuncBox
namespace Go.Proofs.Ytkkholagmjcgiaa
open Go.RowKit Go.Maps

/-- The sums that come up, rising. -/
def keysW (ds : List (List Int)) : List Int := (evK 361).filter fun x => nz (waysF ds) x
theorem evK_rising (k : Nat) : (evK k).Pairwise (· < ·) := by
  unfold evK
  rw [List.pairwise_map]
  exact List.pairwise_lt_range.imp (fun h => by omega)
theorem keysW_of {ds : List (List Int)} (hd : ∀ d ∈ ds, DieOk d) (hl : ds.length ≤ 6) {zs : List Int} (h1 : zs.Pairwise (· < ·)) (h2 : ∀ x ∈ zs, W64 x) (h3 : ∀ x, W64 x → (x ∈ zs ↔ nz (waysF ds) x = true)) : zs = keysW ds := by
  refine rising_unique h1 ((evK_rising 361).filter _) fun x => ?_
  unfold keysW
  rw [List.mem_filter, mem_evK]
  constructor
  · intro hx
    have h4 := (h3 x (h2 x hx)).1 hx
    have h5 := (waysOk_all ds hd hl).2 x (nz_iff.1 h4)
    exact ⟨by omega, h4⟩
  · rintro ⟨h4, h5⟩
    exact (h3 x ⟨by omega, by omega⟩).2 h5

theorem PRow.blk {w : World} {base n : Nat} {v : Value} {xs : List Value} (h : w.ownsRow base 59 2 v n xs) : ∀ g, v.ownBlock = some g → base ≤ g ∧ g < w.heap.size ∧ ∃ cur, Box w g 59 cur := by
  intro g hg
  rcases h.2 with ⟨rfl, _⟩ | ⟨g', cap, cur, rfl, hb, hh, _⟩
  · cases hg
  · have : g' = g := by simpa [Value.ownBlock] using hg
    subst this
    exact ⟨hb, Box.lt hh, cur, hh⟩
/-- A row of pairs of numbers, in memory of one's own. -/
def PRow (w : World) (base : Nat) (v : Value) (ps : List (Int × Int)) : Prop := w.ownsRow base 59 2 v ps.length (ps.flatMap fun p => [Value.int .i64 p.1, Value.int .i64 p.2])
theorem PRow.nil_ (w : World) (b : Nat) : PRow w b (.slice none 0 0) [] := ⟨by simp, .inl ⟨rfl, rfl⟩⟩
def sumsL (ds : List (List Int)) : List (Int × Int) := (keysW ds).map fun s => (s, waysF ds s)

theorem Try.info59 : (Try.prog.info? 59).map (fun i => (i.zero, i.size, i.bytes)) = some (some (.agg #[.int .i64 0, .int .i64 0]), 2, 16) := by kernel_rfl

set_option maxRecDepth 100000 in
set_option maxHeartbeats 2000000 in
theorem Sums_ok (A : Option Addr) (ds : List (List Int)) (c : Nat) (w : World) (hr : RDice w w.heap.size A ds) (hd : AreDice ds) :
    Calls Try.prog 24 #[.slice A ds.length c] w fun e w' => ∃ v, e = .returned (.tuple #[v, .int .i64 0]) ∧ PRow w' w.heap.size v (sumsL ds) ∧ Below w.heap.size w w' := by
  have h6 := hd.len
  have HC := Lib.hid (check_any A ds c _ w hr (by omega) (fun d h => by have := (hd.die d h).ok.1; omega))
  have HZ := Lib.hid (checkL_zero hd)
  have HD := Lib.hid (fun d h => (hd.die d h).ok)
  have HR := Lib.hid hr
  clear hr hd
  go_enter Try.func24, Try.ntmps24
  go_wp2_with fail
  refine HC.out.mono ?_
  rintro e w' ⟨rfl, n, rfl⟩
  rw [HZ.out]
  go_wp2_with fail
  refine (waysOf_any A ds c (w.drewN n) (HR.out.drewN n) h6 HD.out).mono ?_
  rintro e w1 ⟨b, rfl, hb, hm, hB⟩
  have hB : Below w.heap.size w w1 := ⟨hB.os, hB.tape, hB.output, hB.size, hB.block⟩
  have HM := Lib.hid hm
  have HB := Lib.hid hB
  clear hm hB
  go_wp2_with fail
  refine (Keys_any (some b) w1).mono ?_
  rintro e w2 ⟨rfl, rfl⟩
  go_wp2_with fail
  refine (Sorted_any w1.heap.size b 262144 (waysF ds) (nz (waysF ds)) _ (by simp) ((Box.new w1 80 #[.map (some b)]).cell 0) (HM.out.alloc _) (by decide)).mono ?_
  rintro e w3 ⟨A3, c3, zs, rfl, hcz, hri, hpw, hw64, hmem, hln, hb3, hown3⟩
  obtain rfl : zs = keysW ds := keysW_of HD.out h6 hpw hw64 hmem
  have HW := Lib.hid hw64
  have HB3 := Lib.hid (show Below w.heap.size w w3 from (HB.out.alloc HB.out.size _).trans (hb3.mono (by have := HB.out.size; simp; omega)))
  have HM3 := Lib.hid (show MapF w3 b 262144 (waysF ds) (nz (waysF ds)) from (HM.out.alloc _).kept (bg hb3) (by simp))
  obtain ⟨g3, HG3⟩ : ∃ g3, Hid (1 ≤ (keysW ds).length → A3 = some ⟨g3, 0, none⟩ ∧ OwnR w3 g3 c3 (keysW ds)) := by
    by_cases h1 : 1 ≤ (keysW ds).length
    · obtain ⟨g3, h2, _, h3⟩ := hown3 h1
      exact ⟨g3, Lib.hid fun _ => ⟨h2, h3⟩⟩
    · exact ⟨0, Lib.hid fun h => absurd h h1⟩
  clear hcz hri hpw hw64 hmem hb3 hown3
  obtain ⟨i0, hi, hz0, hz1, hz2⟩ := info_parts Try.info59
  go_wp2_with fail
  go_loopg [6, 20] (keysW ds).length (fun g sv i wx => ∃ (k : Nat) (v : Value), v = sv ∧ k + g = (keysW ds).length ∧ i = .int .i64 k ∧ Hid (PRow wx w.heap.size v ((sumsL ds).take k)) ∧ Hid (Below w.heap.size w wx) ∧ Hid (MapF wx b 262144 (waysF ds) (nz (waysF ds))) ∧ Hid (1 ≤ (keysW ds).length → A3 = some ⟨g3, 0, none⟩ ∧ OwnR wx g3 c3 (keysW ds)))
  case atStart => exact ⟨0, _, rfl, by omega, rfl, Lib.hid (PRow.nil_ _ _), HB3, HM3, HG3⟩
  case round =>
    obtain ⟨k, sv, rfl, hkg, rfl, HP1, HB4, HM4, HR4⟩ := hrel
    have HP := HP1
    have HBx := HB4
    have HMx := HM4
    have HRx := HR4
    clear HP1 HB4 HM4 HR4 HB3 HM3 HG3 HM HB HR HC
    have HLS := Lib.hid (show (sumsL ds).length = (keysW ds).length by simp [sumsL])
    cases gk with
    | zero =>
      obtain rfl : k = (keysW ds).length := by omega
      go_wp2_with fail
      go_ret2
      refine ⟨sv, rfl, ?_, HBx.out⟩
      have h1 := HP.out
      rw [← HLS.out, List.take_length] at h1
      exact h1
    | succ g =>
      obtain ⟨hA, how⟩ := HRx.out (by omega)
      subst hA
      obtain ⟨b4, o4, x, hA, hb4, hx, hcx⟩ := how.reads.at_ (k := k) (by omega)
      cases hA
      rw [Nat.zero_add] at hcx
      have HOW := Lib.hid how
      have HA3 := Lib.hid (show some (⟨g3, 0, none⟩ : Addr) = some ⟨g3, 0, none⟩ from rfl)
      have HWX := Lib.hid (HW.out x (List.mem_of_getElem? hx))
      have hkl : (k : Int) < ((keysW ds).length : Int) := by omega
      have hkz : (keysW ds).length ≤ 361 := by
        unfold keysW
        exact Nat.le_trans (List.length_filter_le _ _) (by simp [evK])
      have HPL := Lib.hid (show ((sumsL ds).take k).length = k by have := HLS.out; simp; omega)
      have HTK := Lib.hid (show (sumsL ds).take (k + 1) = (sumsL ds).take k ++ [(x, waysF ds x)] by
        have h1 : (sumsL ds)[k]? = some (x, waysF ds x) := by simp [sumsL, hx]
        have h2 := (List.getElem?_eq_some_iff.1 h1)
        rw [List.take_succ_eq_append_getElem h2.1, h2.2])
      have hp1 := HP.out
      unfold PRow at hp1
      rw [HPL.out] at hp1
      have HP1 := Lib.hid hp1
      have hsz : w.heap.size ≤ (wr.alloc (Obj.cells #[Value.int .i64 x, Value.int .i64 (waysF ds x)] 59)).heap.size := by have := HBx.out.size; simp; omega
      have HSZ := Lib.hid hsz
      have HN := Lib.hid (World.news_of_block (w := wr.alloc (Obj.cells #[Value.int .i64 x, Value.int .i64 (waysF ds x)] 59)) (cs := #[Value.int .i64 x, Value.int .i64 (waysF ds x)]) (t := 59) (fr := (0, 0)) (heap_alloc_new wr _))
      have hk1 : k + 1 ≤ maxLen := by unfold maxLen; omega
      have hk2 : (k + 1) * 16 ≤ 140737488355328 := by omega
      clear hx hp1 hsz hkz how
      go_wp2_with (first
        | (at_lookup; refine wpList_look _ rfl _ _ rfl rfl HMx.out _ rfl HWX.out ?_)
        | (at_builtin; refine wpList_append_own _ rfl _ _ 30 rfl w.heap.size 59 i0 (.agg #[.int .i64 0, .int .i64 0]) 2 16 Try.underlying30 hi hz0 hz1 hz2 rfl (by decide) _ _ _ rfl (World.ownsRow.alloc HP1.out _) ⟨wr.heap.size, 0, none⟩ 1 1 [.int .i64 x, .int .i64 (waysF ds x)] rfl rfl HN.out (by simp [Value.oneCell']) hk1 hk2 HSZ.out ?_; intro v9 w9 hown9 hg9 _))
      have hs9 := hg9.size
      have hsa : (wr.alloc (Obj.cells #[Value.int .i64 x, Value.int .i64 (waysF ds x)] 59)).heap.size = wr.heap.size + 1 := by simp
      have hblk := PRow.blk HP1.out
      have HPN := Lib.hid (show PRow w9 w.heap.size v9 ((sumsL ds).take (k + 1)) by
        unfold PRow
        rw [HTK.out]
        have h1 : ((sumsL ds).take k ++ [(x, waysF ds x)]).length = k + 1 := by rw [List.length_append, HPL.out]; rfl
        rw [h1, List.flatMap_append]
        exact hown9)
      have HBN := Lib.hid (show Below w.heap.size w w9 from (HBx.out.alloc HBx.out.size _).grown hg9 (by rw [hsa]; have := HBx.out.size; omega) (fun j hj => (hblk j hj).1))
      have HMN := Lib.hid (show MapF w9 b 262144 (waysF ds) (nz (waysF ds)) from (HMx.out.alloc _).kept hg9 (fun e => by
        obtain ⟨_, _, cur, hcur⟩ := hblk b e.symm
        exact HMx.out.ne_box hcur rfl))
      have HON := Lib.hid (show 1 ≤ (keysW ds).length → some (⟨g3, 0, none⟩ : Addr) = some ⟨g3, 0, none⟩ ∧ OwnR w9 g3 c3 (keysW ds) from fun _ => ⟨rfl, (HOW.out.alloc _).grown hg9 (fun e => by
        obtain ⟨_, _, cur, hcur⟩ := hblk g3 e.symm
        exact HOW.out.ne_box hcur (by decide) rfl)⟩)
      clear hown9 hg9 hblk
      go_roundg g
      case measure => omega
      case rel => exact ⟨k + 1, _, rfl, by omega, by go_num, HPN, HBN, HMN, Lib.hid fun h => ⟨trivial, (HON.out h).2⟩⟩

theorem flat2 {α β : Type} (f : α → β) (g : α → β) : ∀ (l : List α) (i : Nat) (x : α), l[i]? = some x → (l.flatMap fun p => [f p, g p])[i * 2]? = some (f x) ∧ (l.flatMap fun p => [f p, g p])[i * 2 + 1]? = some (g x)
  | [], i, x, h => by simp at h
  | y :: l, 0, x, h => by
    simp at h
    subst h
    simp
  | y :: l, i + 1, x, h => by
    have h2 := flat2 f g l i x (by simpa using h)
    rw [List.flatMap_cons]
    have e1 : (i + 1) * 2 = i * 2 + 1 + 1 := by omega
    rw [e1]
    simpa using h2

/-- A row of one's own with cells in pairs. -/
theorem own2_cells {w : World} {base : Nat} {e : TypeId} {v : Value} {n : Nat} {xs : List Value} (h : w.ownsRow base e 2 v n xs) (hpos : 1 ≤ n) : ∃ g k, v = .slice (some ⟨g, 0, none⟩) n k ∧ base ≤ g ∧ g < w.heap.size ∧ ∀ j u, xs[j]? = some u → w.cell? ⟨g, j, none⟩ = some u := by
  rcases h.2 with ⟨_, h2⟩ | ⟨g, cap, cur, e1, hb, hh, h1, h2, h3, h4⟩
  · omega
  · refine ⟨g, cap, e1, hb, Box.lt hh, fun j u hu => ?_⟩
    have hbx : Box w g e cur := hh
    have hl := h.1
    have hj : j < xs.length := (List.getElem?_eq_some_iff.1 hu).1
    rw [hbx.cell j]
    have h5 := congrArg (fun l => l[j]?) h4
    rw [show xs[j]? = some u from hu] at h5
    have h6 : (cur.toList.take (n * 2))[j]? = some u := h5
    rw [List.getElem?_take, if_pos (by omega)] at h6
    simpa using h6

theorem PRow.cells {w : World} {base : Nat} {v : Value} {ps : List (Int × Int)} (h : PRow w base v ps) (hpos : 1 ≤ ps.length) : ∃ g k, v = .slice (some ⟨g, 0, none⟩) ps.length k ∧ base ≤ g ∧ g < w.heap.size ∧ ∀ i p, ps[i]? = some p → w.cell? ⟨g, i * 2, none⟩ = some (.int .i64 p.1) ∧ w.cell? ⟨g, i * 2 + 1, none⟩ = some (.int .i64 p.2) := by
  obtain ⟨g, k, e, hb, hg, hc⟩ := own2_cells h hpos
  refine ⟨g, k, e, hb, hg, fun i p hp => ?_⟩
  obtain ⟨f1, f2⟩ := flat2 (fun p : Int × Int => Value.int .i64 p.1) (fun p => Value.int .i64 p.2) ps i p hp
  exact ⟨hc _ _ f1, hc _ _ f2⟩

end Go.Proofs.Ytkkholagmjcgiaa
