/- The statements' function own: copies of the first lists, each of its first numbers, in memory of their own. -/
import Derived.Test.YtkkholagmjcgiaaSome
namespace Go.Proofs.Ytkkholagmjcgiaa
open Go.RowKit

/-- A row of slices of one's own, each of which is a row of integers of one's own, nil let in. -/
structure OwnS (w : World) (base : Nat) (v : Value) (ds : List (List Int)) (us : List Value) : Prop where
  len : us.length = ds.length
  top : w.ownsRow base 36 1 v ds.length us
  rows : ∀ (i : Nat) (u : Value) (d : List Int), us[i]? = some u → ds[i]? = some d → OwnV w u d

section
variable {w w' : World} {base : Nat} {v : Value} {ds : List (List Int)} {us : List Value}
theorem OwnS.nil_ (w : World) (base : Nat) : OwnS w base (.slice none 0 0) [] [] := ⟨rfl, ⟨by simp, .inl ⟨rfl, rfl⟩⟩, fun i u d h => by simp at h⟩
theorem OwnS.below (h : OwnS w base v ds us) (hb : Below w.heap.size w w') : OwnS w' base v ds us :=
  ⟨h.len, own_below h.top hb, fun i u d h1 h2 => own_below (h.rows i u d h1 h2) hb⟩
theorem OwnS.more {u : Value} {d : List Int} {v' : Value} (h : OwnS w base v ds us) (hg : w.grownBy w' v.ownBlock) (hu : OwnV w u d) (htop : w'.ownsRow base 36 1 v' (ds.length + 1) (us ++ [u])) : OwnS w' base v' (ds ++ [d]) (us ++ [u]) := by
  have hkeep : ∀ {x : Value} {zs : List Int}, OwnV w x zs → OwnV w' x zs := fun hx => hx.grown_far hg fun g hgx e => by
    obtain ⟨_, _, cur, hb⟩ := slices_blk h.top g e
    exact hx.ne_box hb (by decide) hgx
  refine ⟨by rw [List.length_append, List.length_append, h.len]; rfl, by rw [List.length_append]; exact htop, fun i x y h1 h2 => ?_⟩
  rcases Nat.lt_or_ge i us.length with hlt | hge
  · rw [List.getElem?_append_left hlt] at h1
    rw [List.getElem?_append_left (by have := h.len; omega)] at h2
    exact hkeep (h.rows i x y h1 h2)
  · rw [List.getElem?_append_right hge] at h1
    rw [List.getElem?_append_right (by have := h.len; omega)] at h2
    have e : i - us.length = 0 := by
      rcases Nat.eq_zero_or_pos (i - us.length) with h0 | h0
      · exact h0
      · rw [List.getElem?_eq_none (by simp; omega)] at h1
        cases h1
    have e2 : i - ds.length = 0 := by have := h.len; omega
    rw [e] at h1
    rw [e2] at h2
    have h1 : u = x := by simpa using h1
    have h2 : d = y := by simpa using h2
    subst h1 h2
    exact hkeep hu
theorem OwnS.reads (h : OwnS w base v ds us) : ∃ A c, v = .slice A ds.length c ∧ ds.length ≤ c ∧ RDice w w.heap.size A ds := by
  have hrow : ∀ (i : Nat) (u : Value) (d : List Int), us[i]? = some u → ds[i]? = some d → RDie w w.heap.size u d := fun i u d hu hd => by
    obtain ⟨A, c, e, hc, _, hr⟩ := (h.rows i u d hu hd).reads
    exact ⟨A, c, e, hc, hr⟩
  rcases h.top.2 with ⟨e1, hn⟩ | ⟨g, cap, cur, e1, hb, hh, h1, h2, h3, h4⟩
  · refine ⟨none, 0, by rw [e1, hn], by omega, ?_⟩
    rw [List.eq_nil_of_length_eq_zero hn]
    exact RDice.nil_
  · refine ⟨_, cap, e1, h1, ⟨us, h.len, fun j u hu => ?_, hrow⟩⟩
    have hbx : Box w g 36 cur := hh
    have hj : j < ds.length := by rw [← h.len]; exact (List.getElem?_eq_some_iff.1 hu).1
    refine ⟨g, 0, rfl, hbx.lt, ?_⟩
    rw [Nat.zero_add, hbx.cell j]
    have h5 := congrArg (fun l => l[j]?) h4
    simp only [hu] at h5
    rw [Nat.mul_one, List.getElem?_take, if_pos hj] at h5
    simpa using h5
end

/-- The copies. -/
def ownL (l : List (List Int)) : List (List Int) := (l.take 7).map fun d => d.take 9
/-- Lists are returned, to be read in memory that is there then; nothing that was there turns. -/
def GaveS (w : World) (ds : List (List Int)) (e : Ending) (w' : World) : Prop := ∃ A c, e = .returned (.slice A ds.length c) ∧ ds.length ≤ c ∧ RDice w' w'.heap.size A ds ∧ Below w.heap.size w w'

set_option maxRecDepth 100000 in
set_option maxHeartbeats 4000000 in
theorem own_any (A : Option Addr) (l : List (List Int)) (c : Nat) (w : World) (hr : RDice w w.heap.size A l) (hl : l.length ≤ 9223372036854775807) (hd : ∀ x ∈ l, x.length ≤ 9223372036854775807) :
    Calls Try.prog 19 #[.slice A l.length c] w (GaveS w (ownL l)) := by
  have HR := Lib.hid hr
  have HD := Lib.hid hd
  clear hr hd
  go_enter Try.func19, Try.ntmps19
  go_wp2_with fail
  go_loopg [3, 4] (min l.length 7) (fun g v i wx => ∃ (k : Nat) (us : List Value), k + g = min l.length 7 ∧ i = .int .i64 k ∧ OwnS wx w.heap.size v ((l.take k).map fun d => d.take 9) us ∧ Below w.heap.size w wx)
  case atStart => exact ⟨0, [], by omega, rfl, OwnS.nil_ w _, Below.refl _ _⟩
  case round =>
    obtain ⟨k, us, hkg, rfl, hv, hB⟩ := hrel
    cases gk with
    | zero =>
      have HS := Lib.hid (show (l.take k).map (fun d => d.take 9) = ownL l by
        unfold ownL
        have hk : k = min l.length 7 := by omega
        congr 1
        rcases Nat.le_total l.length 7 with h9 | h9
        · rw [List.take_of_length_le h9, List.take_of_length_le (by omega)]
        · rw [hk, Nat.min_eq_right h9])
      rw [HS.out] at hv
      obtain ⟨A9, c9, e1, hc9, hr9⟩ := hv.reads
      subst e1
      have HRR := Lib.hid hr9
      have HB := Lib.hid hB
      by_cases hl0 : (k : Int) < (l.length : Int)
      · have hm0 : ¬ (k : Int) ≤ 6 := by omega
        clear hv hB hkg hr9
        go_wp2_with fail
        go_ret
        exact ⟨A9, c9, rfl, hc9, HRR.out, HB.out⟩
      · clear hv hB hkg hr9
        go_wp2_with fail
        go_ret
        exact ⟨A9, c9, rfl, hc9, HRR.out, HB.out⟩
    | succ g =>
      have hki : (k : Int) < (l.length : Int) := by omega
      have hkm : (k : Int) ≤ 6 := by omega
      have hk0 : (0 : Int) ≤ (k : Int) := by omega
      obtain ⟨b, o, a, cc, d, hA, hb, hx, hcx, hdc, hrd⟩ := HR.out.at_ (k := k) (by omega)
      subst hA
      have hcx2 : wr.cell? ⟨b, o + k, none⟩ = some (.slice a d.length cc) := (hB.cell (p := ⟨b, o + k, none⟩) hb).trans hcx
      obtain ⟨ds, hds⟩ : ∃ ds, (l.take k).map (fun d => d.take 9) = ds := ⟨_, rfl⟩
      have HDS := Lib.hid (show (l.take (k + 1)).map (fun d => d.take 9) = ds ++ [d.take 9] by
        have hk9 := List.getElem?_eq_some_iff.1 hx
        rw [List.take_succ_eq_append_getElem hk9.1, hk9.2, List.map_append, hds]
        rfl)
      have HLN := Lib.hid (show ds.length = k by rw [← hds]; simp; omega)
      rw [hds] at hv
      have HM := Lib.hid (die_any a d cc wr ((hrd.below hB).more hB.size) hdc (HD.out d (List.mem_of_getElem? hx)))
      have HV := Lib.hid hv
      have HB := Lib.hid hB
      clear hcx hrd hv hB hx hds
      go_wp2_with fail
      refine HM.out.mono ?_
      rintro e w1 ⟨u, rfl, ho1, _, hb1⟩
      obtain ⟨m, hm⟩ : ∃ m, d.take 9 = m := ⟨_, rfl⟩
      rw [hm] at ho1 HDS
      obtain ⟨A5, c5, e5, _, _, _⟩ := ho1.reads
      subst e5
      have HV1 := Lib.hid (HV.out.below hb1)
      have HB1 := Lib.hid (HB.out.trans (hb1.mono HB.out.size))
      have HO1 := Lib.hid ho1
      have hcn : ∀ (x : Value) (j : Nat) (u : Value), [x][j]? = some u → (w1.alloc (Obj.cells #[x] 36)).cell? ((⟨w1.heap.size, 0, none⟩ : Addr).add j) = some u := fun x j u hu => by
        cases j with
        | zero =>
          have e : x = u := by simpa using hu
          subst e
          exact (Box.new w1 36 #[x]).cell 0
        | succ j => simp at hu
      have HCN := Lib.hid hcn
      have hsz1 : w.heap.size ≤ (w1.alloc (Obj.cells #[Value.slice A5 m.length c5] 36)).heap.size := by
        have := HB1.out.size
        simp
        omega
      have HSZ := Lib.hid hsz1
      obtain ⟨i0, hi, hz0, hz1, hz2⟩ := info_parts Try.info36
      clear hm ho1 hb1 hcn hsz1 HM
      go_wp2_with (first
        | (at_builtin; (refine wpList_append_own_at _ rfl _ _ 22 rfl w.heap.size 36 i0 (.slice none 0 0) 1 24 Try.underlying22 hi hz0 hz1 hz2 rfl (by decide) _ _ _ rfl (World.ownsRow.alloc HV1.out.top _) ⟨w1.heap.size, 0, none⟩ 1 1 [.slice A5 m.length c5] rfl rfl (HCN.out _) (by simp [Value.oneCell']) (by have := HLN.out; unfold maxLen; omega) (by have := HLN.out; omega) HSZ.out ?_; intro v2 w2 ht2 hg2 _ hat2; have HT2 := Lib.hid ht2; have HG2 := Lib.hid hg2; clear ht2 hg2 hat2)))
      go_roundg g
      case measure => omega
      case rel =>
        have hal : OwnS (w1.alloc (Obj.cells #[Value.slice A5 m.length c5] 36)) w.heap.size _ ds us := HV1.out.below ((Below.refl _ _).alloc (Nat.le_refl _) _)
        have h9 := OwnS.more hal HG2.out (World.ownsRow.alloc HO1.out _) HT2.out
        rw [← HDS.out] at h9
        exact ⟨k + 1, _, by omega, by go_num, h9, ((HB1.out.alloc HB1.out.size _).grown HG2.out HSZ.out (fun j hj => (slices_blk HV1.out.top j hj).1))⟩

end Go.Proofs.Ytkkholagmjcgiaa
