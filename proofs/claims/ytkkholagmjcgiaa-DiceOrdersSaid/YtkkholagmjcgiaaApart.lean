/- The statements' function apart: dice of which no two share a side, in memory of their own, made in place. -/
import Derived.Test.YtkkholagmjcgiaaSome
namespace Go.Proofs.Ytkkholagmjcgiaa
open Go.RowKit

/-- A die whose first k sides are five times as great and j more. -/
def apRow (d : List Int) (j k : Nat) : List Int := (d.take k).map (fun s => 5 * s + (j : Int)) ++ d.drop k
/-- The first i dice have been turned, and k sides of the next. -/
def apTo (ds : List (List Int)) (i k : Nat) : List (List Int) := (List.range ds.length).map fun j => apRow (ds.getD j []) j (if j < i then (ds.getD j []).length else if j = i then k else 0)
def apartL (ds : List (List Int)) : List (List Int) := (List.range ds.length).map fun j => (ds.getD j []).map fun s => 5 * s + (j : Int)

theorem apRow_len (d : List Int) (j k : Nat) (hk : k ≤ d.length) : (apRow d j k).length = d.length := by
  simp [apRow]
  omega
theorem apTo_len (ds : List (List Int)) (i k : Nat) : (apTo ds i k).length = ds.length := by simp [apTo]
theorem apTo_at {ds : List (List Int)} {i k j : Nat} (hj : j < ds.length) : (apTo ds i k).getD j [] = apRow (ds.getD j []) j (if j < i then (ds.getD j []).length else if j = i then k else 0) := by
  simp [apTo, List.getD, hj]
theorem ext_getD {a b : List (List Int)} (hl : a.length = b.length) (h : ∀ j, j < a.length → a.getD j [] = b.getD j []) : a = b := by
  refine List.ext_getElem hl fun j h1 h2 => ?_
  have := h j h1
  simpa [List.getD, h1, h2] using this
theorem apTo_zero (ds : List (List Int)) : apTo ds 0 0 = ds := ext_getD (apTo_len _ _ _) fun j hj => by
  rw [apTo_len] at hj
  rw [apTo_at hj]
  simp [apRow]
theorem apTo_next {ds : List (List Int)} {i : Nat} : apTo ds i (ds.getD i []).length = apTo ds (i + 1) 0 := ext_getD (by rw [apTo_len, apTo_len]) fun j hj => by
  rw [apTo_len] at hj
  rw [apTo_at hj, apTo_at hj]
  by_cases e : j = i
  · subst e
    simp
  · by_cases h : j < i
    · rw [if_pos h, if_pos (by omega)]
    · rw [if_neg h, if_neg e, if_neg (by omega)]
      simp
theorem apTo_all (ds : List (List Int)) : apTo ds ds.length 0 = apartL ds := ext_getD (by simp [apTo, apartL]) fun j hj => by
  rw [apTo_len] at hj
  rw [apTo_at hj, if_pos hj]
  simp [apRow, apartL, List.getD, hj]
theorem apTo_step {ds : List (List Int)} {i k j : Nat} (hi : i < ds.length) (hk : k < (ds.getD i []).length) (hj : j < ds.length) :
    (apTo ds i (k + 1)).getD j [] = if j = i then ((apTo ds i k).getD i []).set k (5 * (ds.getD i []).getD k 0 + (i : Int)) else (apTo ds i k).getD j [] := by
  rw [apTo_at hj, apTo_at hi, apTo_at hj]
  by_cases e : j = i
  · subst e
    rw [if_neg (Nat.lt_irrefl _), if_pos rfl, if_pos rfl, if_pos rfl, if_neg (Nat.lt_irrefl _)]
    generalize ds.getD j [] = d at hk ⊢
    refine List.ext_getElem? fun m => ?_
    have hg : d[k]? = some (d.getD k 0) := by simp [List.getD, hk]
    rw [List.getElem?_set, apRow_len _ _ _ (by omega)]
    unfold apRow
    by_cases h1 : k = m
    · subst h1
      rw [if_pos rfl, if_pos hk, List.getElem?_append_left (by simp; omega), List.getElem?_map, List.getElem?_take, if_pos (by omega), hg]
      rfl
    · rw [if_neg h1]
      rcases Nat.lt_or_ge m k with h2 | h2
      · rw [List.getElem?_append_left (by simp; omega), List.getElem?_append_left (by simp; omega), List.getElem?_map, List.getElem?_map, List.getElem?_take, List.getElem?_take, if_pos h2, if_pos (by omega)]
      · rw [List.getElem?_append_right (by simp; omega), List.getElem?_append_right (by simp; omega), List.getElem?_drop, List.getElem?_drop]
        congr 1
        rw [List.length_map, List.length_map, List.length_take, List.length_take]
        omega
  · rw [if_neg e, if_neg e, if_neg e]

section
variable {w w' : World} {base : Nat} {v : Value} {ds ds' : List (List Int)} {G K : Nat → Nat}
theorem OwnD.form (h : OwnD w base v ds G K) (hpos : 1 ≤ ds.length) : ∃ g k, v = .slice (some ⟨g, 0, none⟩) ds.length k ∧ base ≤ g ∧ g < w.heap.size ∧ ∀ i, i < ds.length → w.cell? ⟨g, i, none⟩ = some (.slice (some ⟨G i, 0, none⟩) (ds.getD i []).length (K i)) := by
  rcases h.top.2 with ⟨_, hn⟩ | ⟨g, cap, cur, e1, hb, hh, h1, h2, h3, h4⟩
  · omega
  · have hbx : Box w g 36 cur := hh
    refine ⟨g, cap, e1, hb, hbx.lt, fun i hi => ?_⟩
    rw [hbx.cell i]
    have h5 := congrArg (fun l => l[i]?) h4
    simp only [OwnD.vs_at hi] at h5
    rw [Nat.mul_one, List.getElem?_take, if_pos hi] at h5
    simpa using h5
theorem OwnR.put {g k : Nat} {zs : List Int} (h : OwnR w g k zs) (j : Nat) (x : Int) : OwnR (w.setCell ⟨g, j, none⟩ (.int .i64 x)) g k (zs.set j x) := by
  obtain ⟨cur, hb, h1, h2, h3, h4⟩ := h.box
  refine OwnR.of_box (hb.put j _) (by simpa using h1) (by simpa using h2) h3 ?_
  rw [List.length_set, Array.toList_setIfInBounds, List.take_set, h4, List.map_set]
theorem OwnD.put (h : OwnD w base v ds G K) {i k : Nat} {x : Int} (hi : i < ds.length) (hk : k < (ds.getD i []).length) (hl : ds'.length = ds.length) (hd : ∀ j, j < ds.length → ds'.getD j [] = if j = i then (ds.getD i []).set k x else ds.getD j []) :
    OwnD (w.setCell ⟨G i, k, none⟩ (.int .i64 x)) base v ds' G K := by
  have hlen : ∀ j, j < ds.length → (ds'.getD j []).length = (ds.getD j []).length := fun j hj => by
    rw [hd j hj]
    by_cases e : j = i
    · rw [if_pos e, e, List.length_set]
    · rw [if_neg e]
  refine ⟨?_, fun j hj => ?_, fun a b ha hb => h.inj a b (by omega) (by omega)⟩
  · rw [hl]
    have e1 : ((List.range ds.length).map fun i => Value.slice (some ⟨G i, 0, none⟩) (ds'.getD i []).length (K i)) = (List.range ds.length).map fun i => Value.slice (some ⟨G i, 0, none⟩) (ds.getD i []).length (K i) :=
      List.map_congr_left fun j hj => by rw [hlen j (List.mem_range.1 hj)]
    rw [e1]
    refine ⟨h.top.1, ?_⟩
    rcases h.top.2 with h0 | ⟨g, cap, cur, e1, hb, hh, hr⟩
    · exact .inl h0
    · have hbx : Box w g 36 cur := hh
      exact .inr ⟨g, cap, cur, e1, hb, hbx.far (p := ⟨G i, k, none⟩) (fun e => h.ne hi (by rw [e1]; simpa [Value.ownBlock] using e)) _, hr⟩
  · rw [hl] at hj
    refine ⟨(h.rows j hj).1, ?_⟩
    rw [hd j hj]
    by_cases e : j = i
    · subst e
      rw [if_pos rfl]
      exact (h.rows j hj).2.put k x
    · rw [if_neg e]
      exact (h.rows j hj).2.far (p := ⟨G i, k, none⟩) (fun e2 => e (h.inj j i hj hi e2)) _
end

set_option maxRecDepth 100000 in
set_option maxHeartbeats 4000000 in
theorem apart_any (A : Option Addr) (l : List (List Int)) (c many : Nat) (w : World) (hr : RDice w w.heap.size A l) (hl : l.length ≤ 9223372036854775807) (hd : ∀ x ∈ l, x.length ≤ 9223372036854775807) (hmany : many ≤ 6) (h1 : 1 ≤ many) :
    Calls Try.prog 52 #[.slice A l.length c, .int .i64 many] w (GaveD w (apartL (someL l many (11 : Nat)))) := by
  have HS := Lib.hid (show Calls Try.prog 36 #[.slice A l.length c, .int .i64 many, .int .i64 11] w (GaveD w (someL l many (11 : Nat))) from some_any A l c many 11 w hr hl hd (by decide) (by omega))
  have hdi : AreDice (someL l many (11 : Nat)) := someL_dice l (by decide) (by decide) hmany
  obtain ⟨ds, hds⟩ : ∃ ds, someL l many (11 : Nat) = ds := ⟨_, rfl⟩
  rw [hds] at HS hdi ⊢
  have HDI := Lib.hid hdi
  have hlen := hdi.len
  have hpos := hdi.pos
  clear hr hds hdi hd
  go_enter Try.func52, Try.ntmps52
  go_wp2_with fail
  refine HS.out.mono ?_
  rintro e w1 ⟨v, G, K, rfl, hv, hb1⟩
  obtain ⟨g0, k0, rfl, _, _, _⟩ := hv.form hpos
  have HV := Lib.hid (show OwnD w1 w.heap.size (.slice (some ⟨g0, 0, none⟩) ds.length k0) (apTo ds 0 0) G K by rw [apTo_zero]; exact hv)
  have HB1 := Lib.hid hb1
  clear hv hb1 HS
  go_wp2_with fail
  go_loopg [6] ds.length (fun g i wx => ∃ k : Nat, k + g = ds.length ∧ i = .int .i64 k ∧ Hid (OwnD wx w.heap.size (.slice (some ⟨g0, 0, none⟩) ds.length k0) (apTo ds k 0) G K) ∧ Hid (Below w.heap.size w wx))
  case atStart => exact ⟨0, by omega, rfl, HV, HB1⟩
  case round =>
    obtain ⟨i, hi, rfl, HV2, HB2⟩ := hrel
    have HV3 := HV2
    have HB3 := HB2
    clear HV2 HB2 HV HB1
    cases gk with
    | zero =>
      obtain rfl : i = ds.length := by omega
      go_wp2_with fail
      go_ret
      exact ⟨_, G, K, rfl, by rw [← apTo_all]; exact HV3.out, HB3.out⟩
    | succ gg =>
      have hil : i < ds.length := by omega
      have hil1 : (i : Int) < (ds.length : Int) := by omega
      obtain ⟨d, hd⟩ : ∃ d, ds.getD i [] = d := ⟨_, rfl⟩
      have HD := Lib.hid hd
      have hok : DieOk d := by
        have h9 := List.getElem?_eq_getElem hil
        have e : ds.getD i [] = ds[i] := by simp [List.getD, h9]
        rw [← hd, e]
        exact (HDI.out.die _ (List.getElem_mem hil)).ok
      have HOK := Lib.hid hok
      have hd8 := hok.1
      clear hd hok
      go_wp2_with fail
      go_loopg [7] d.length (fun g z wx => ∃ k : Nat, k + g = d.length ∧ z = .int .i64 k ∧ Hid (OwnD wx w.heap.size (.slice (some ⟨g0, 0, none⟩) ds.length k0) (apTo ds i k) G K) ∧ Hid (Below w.heap.size w wx))
      case atStart => exact ⟨0, by omega, rfl, HV3, HB3⟩
      case round =>
        obtain ⟨k, hk, rfl, HV4, HB4⟩ := hrel
        have HV5 := HV4
        have HB5 := HB4
        clear HV4 HB4 HV3 HB3
        have hrow : ((apTo ds i k).getD i []).length = d.length := by
          rw [apTo_at hil, if_neg (Nat.lt_irrefl _), if_pos rfl, HD.out]
          exact apRow_len _ _ _ (by omega)
        obtain ⟨g1, k1, e1, _, hg1, hcell⟩ := HV5.out.form (by rw [apTo_len]; exact hpos)
        rw [apTo_len] at e1 hcell
        cases e1
        have hci := hcell i hil
        rw [hrow] at hci
        clear hcell
        cases gk with
        | zero =>
          obtain rfl : k = d.length := by omega
          have HVN := HV5
          rw [← HD.out, apTo_next] at HVN
          clear hrow
          go_wp2_with fail
          go_roundg gg
          case measure => omega
          case rel => exact ⟨i + 1, by omega, by go_num, HVN, HB5⟩
        | succ gg2 =>
          have hkl : k < d.length := by omega
          have hkl1 : (k : Int) < (d.length : Int) := by omega
          obtain ⟨s, hs⟩ : ∃ s, d.getD k 0 = s := ⟨_, rfl⟩
          have hsm : d[k]? = some s := by rw [← hs]; simp [List.getD, hkl]
          have hsr := HOK.out.2 s (List.mem_of_getElem? hsm)
          have hs0 := hsr.1
          have hs1 := hsr.2
          have hcs : wr.cell? ⟨G i, k, none⟩ = some (.int .i64 s) := by
            refine (HV5.out.rows i (by rw [apTo_len]; exact hil)).2.at_ ?_
            rw [apTo_at hil, if_neg (Nat.lt_irrefl _), if_pos rfl, HD.out]
            unfold apRow
            rw [List.getElem?_append_right (by simp; omega), List.getElem?_drop, ← hsm]
            congr 1
            simp
            omega
          obtain ⟨cur, hbx, hcur⟩ := (HV5.out.rows i (by rw [apTo_len]; exact hil)).2.box
          have hfr := hbx.free k
          have hGl := hbx.lt
          have hGb := (HV5.out.rows i (by rw [apTo_len]; exact hil)).1
          have HR := Lib.hid hrow
          have HSS := Lib.hid hs
          have hi6 : (i : Int) ≤ 6 := by omega
          clear hrow hs hsm hsr hbx hcur cur
          go_wp2_with fail
          go_roundg gg2
          case measure => omega
          case rel =>
            refine ⟨k + 1, by omega, by go_num, Lib.hid ?_, Lib.hid (HB5.out.setCell (p := ⟨G i, k, none⟩) hGb _)⟩
            have hk3 : k < (ds.getD i []).length := by rw [HD.out]; exact hkl
            have h2 := HV5.out.put (ds' := apTo ds i (k + 1)) (i := i) (k := k) (x := 5 * (ds.getD i []).getD k 0 + (i : Int)) (by rw [apTo_len]; exact hil) (by rw [HR.out]; exact hkl) (by rw [apTo_len, apTo_len]) (fun j hj => by
              rw [apTo_len] at hj
              exact apTo_step hil hk3 hj)
            rw [HD.out, HSS.out] at h2
            exact h2

end Go.Proofs.Ytkkholagmjcgiaa
