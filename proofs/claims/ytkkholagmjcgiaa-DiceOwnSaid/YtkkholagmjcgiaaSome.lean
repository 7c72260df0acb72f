/- The statements' function some: dice of any numbers, in memory of their own. -/
import Derived.Test.YtkkholagmjcgiaaMade
namespace Go.Proofs.Ytkkholagmjcgiaa
open Go.RowKit

/-- Dice in memory of one's own: a row of slices, and each list in a block of its own. -/
structure OwnD (w : World) (base : Nat) (v : Value) (ds : List (List Int)) (G K : Nat → Nat) : Prop where
  top : w.ownsRow base 36 1 v ds.length ((List.range ds.length).map fun i => .slice (some ⟨G i, 0, none⟩) (ds.getD i []).length (K i))
  rows : ∀ i, i < ds.length → base ≤ G i ∧ OwnR w (G i) (K i) (ds.getD i [])
  inj : ∀ i j, i < ds.length → j < ds.length → G i = G j → i = j

theorem Try.info36 : (Try.prog.info? 36).map (fun i => (i.zero, i.size, i.bytes)) = some (some (.slice none 0 0), 1, 24) := by kernel_rfl

theorem slices_blk {w : World} {base n : Nat} {v : Value} {xs : List Value} (h : w.ownsRow base 36 1 v n xs) : ∀ g, v.ownBlock = some g → base ≤ g ∧ g < w.heap.size ∧ ∃ cur, Box w g 36 cur := by
  intro g hg
  rcases h.2 with ⟨rfl, _⟩ | ⟨g', cap, cur, rfl, hb, hh, _⟩
  · cases hg
  · have : g' = g := by simpa [Value.ownBlock] using hg
    subst this
    exact ⟨hb, Box.lt hh, cur, hh⟩

section
variable {w w' : World} {base : Nat} {v : Value} {ds : List (List Int)} {G K : Nat → Nat}
theorem OwnD.nil_ (w : World) (base : Nat) : OwnD w base (.slice none 0 0) [] (fun _ => 0) (fun _ => 0) := ⟨⟨by simp, .inl ⟨rfl, rfl⟩⟩, fun i h => by simp at h, fun i j h => by simp at h⟩
theorem OwnD.blk (h : OwnD w base v ds G K) : ∀ g, v.ownBlock = some g → base ≤ g ∧ g < w.heap.size ∧ ∃ cur, Box w g 36 cur := slices_blk h.top
theorem OwnD.ne (h : OwnD w base v ds G K) {i : Nat} (hi : i < ds.length) : v.ownBlock ≠ some (G i) := fun e => by
  obtain ⟨_, _, cur, hb⟩ := h.blk _ e
  exact (h.rows i hi).2.ne_box hb (by decide) rfl
theorem OwnD.not_at (h : OwnD w base v ds G K) {g : Nat} (hg : w.heap.size ≤ g) : (∀ i, i < ds.length → G i ≠ g) ∧ v.ownBlock ≠ some g :=
  ⟨fun i hi e => by have := (h.rows i hi).2.lt; omega, fun e => by have := (h.blk g e).2.1; omega⟩
theorem OwnD.below (h : OwnD w base v ds G K) (hb : Below w.heap.size w w') : OwnD w' base v ds G K :=
  ⟨own_below h.top hb, fun i hi => ⟨(h.rows i hi).1, (h.rows i hi).2.below hb (h.rows i hi).2.lt⟩, h.inj⟩
theorem OwnD.alloc (h : OwnD w base v ds G K) (o : Obj) : OwnD (w.alloc o) base v ds G K := ⟨World.ownsRow.alloc h.top o, fun i hi => ⟨(h.rows i hi).1, (h.rows i hi).2.alloc o⟩, h.inj⟩

theorem OwnD.vs_at {i : Nat} (hi : i < ds.length) : ((List.range ds.length).map fun i => Value.slice (some ⟨G i, 0, none⟩) (ds.getD i []).length (K i))[i]? = some (.slice (some ⟨G i, 0, none⟩) (ds.getD i []).length (K i)) := by simp [hi]

/-- Read only, they are dice. -/
theorem OwnD.reads (h : OwnD w base v ds G K) : ∃ A c, v = .slice A ds.length c ∧ ds.length ≤ c ∧ RDice w w.heap.size A ds := by
  have hrow : ∀ (i : Nat) (u : Value) (d : List Int), ((List.range ds.length).map fun i => Value.slice (some ⟨G i, 0, none⟩) (ds.getD i []).length (K i))[i]? = some u → ds[i]? = some d → RDie w w.heap.size u d := fun i u d hu hd => by
    have hi := (List.getElem?_eq_some_iff.1 hd).1
    rw [OwnD.vs_at hi] at hu
    have e : ds.getD i [] = d := by simp [List.getD, hd]
    rw [e] at hu
    cases hu
    have hr := (h.rows i hi).2
    rw [e] at hr
    exact ⟨_, _, rfl, hr.cap, hr.reads⟩
  rcases h.top.2 with ⟨e1, hn⟩ | ⟨g, cap, cur, e1, hb, hh, h1, h2, h3, h4⟩
  · refine ⟨none, 0, by rw [e1, hn], by omega, ?_⟩
    rw [List.eq_nil_of_length_eq_zero hn]
    exact RDice.nil_
  · refine ⟨_, cap, e1, h1, ⟨_, by simp, fun j u hu => ?_, hrow⟩⟩
    have hbx : Box w g 36 cur := hh
    have hj : j < ds.length := by
      have := (List.getElem?_eq_some_iff.1 hu).1
      simpa using this
    refine ⟨g, 0, rfl, hbx.lt, ?_⟩
    rw [Nat.zero_add, hbx.cell j]
    have h5 := congrArg (fun l => l[j]?) h4
    simp only [hu] at h5
    rw [Nat.mul_one, List.getElem?_take, if_pos hj] at h5
    simpa using h5

/-- One die more: its list lies in a block that is none of the others'. -/
theorem OwnD.more {g k : Nat} {d : List Int} {v' : Value} {row : Option Nat} (h : OwnD w base v ds G K) (hg : w.grownBy w' row) (hrow : row = v.ownBlock) (hd : OwnR w g k d) (hb : base ≤ g) (hne : ∀ i, i < ds.length → G i ≠ g) (hvg : v.ownBlock ≠ some g)
    (htop : w'.ownsRow base 36 1 v' (ds.length + 1) (((List.range ds.length).map fun i => Value.slice (some ⟨G i, 0, none⟩) (ds.getD i []).length (K i)) ++ [.slice (some ⟨g, 0, none⟩) d.length k])) :
    OwnD w' base v' (ds ++ [d]) (fun i => if i = ds.length then g else G i) (fun i => if i = ds.length then k else K i) := by
  have hget : ∀ i, i < ds.length → (ds ++ [d]).getD i [] = ds.getD i [] := fun i hi => by simp [List.getD, List.getElem?_append_left hi]
  have hlast : (ds ++ [d]).getD ds.length [] = d := by simp [List.getD]
  refine ⟨?_, fun i hi => ?_, fun i j hi hj e => ?_⟩
  · rw [List.length_append, List.length_singleton, List.range_succ, List.map_append, List.map_singleton]
    have e1 : ((List.range ds.length).map fun i => Value.slice (some ⟨if i = ds.length then g else G i, 0, none⟩) ((ds ++ [d]).getD i []).length (if i = ds.length then k else K i)) = (List.range ds.length).map fun i => Value.slice (some ⟨G i, 0, none⟩) (ds.getD i []).length (K i) := by
      refine List.map_congr_left fun i hi => ?_
      have hi := List.mem_range.1 hi
      rw [hget i hi, if_neg (by omega), if_neg (by omega)]
    rw [e1, hlast, if_pos rfl, if_pos rfl]
    exact htop
  · rw [List.length_append, List.length_singleton] at hi
    rcases Nat.lt_or_ge i ds.length with hlt | hge
    · rw [hget i hlt, if_neg (by omega), if_neg (by omega)]
      exact ⟨(h.rows i hlt).1, (h.rows i hlt).2.grown hg (fun e => h.ne hlt (by rw [hrow] at e; exact e.symm))⟩
    · obtain rfl : i = ds.length := by omega
      rw [hlast, if_pos rfl, if_pos rfl]
      exact ⟨hb, hd.grown hg (fun e => hvg (by rw [hrow] at e; exact e.symm))⟩
  · rw [List.length_append, List.length_singleton] at hi hj
    by_cases h1 : i = ds.length
    · by_cases h2 : j = ds.length
      · omega
      · rw [if_pos h1, if_neg h2] at e
        exact absurd e.symm (hne j (by omega))
    · by_cases h2 : j = ds.length
      · rw [if_neg h1, if_pos h2] at e
        exact absurd e (hne i (by omega))
      · rw [if_neg h1, if_neg h2] at e
        exact h.inj i j (by omega) (by omega) e
end

/-- Dice are returned, in memory that was not there before; nothing that was there turns. -/
def GaveD (w : World) (ds : List (List Int)) (e : Ending) (w' : World) : Prop := ∃ v G K, e = .returned v ∧ OwnD w' w.heap.size v ds G K ∧ Below w.heap.size w w'
/-- One die with one side, laid anew. -/
theorem OwnD.one (w : World) {base : Nat} (hb : base ≤ w.heap.size) : OwnD ((w.alloc (Obj.cells #[Value.int .i64 0] 3)).alloc (Obj.cells #[Value.slice (some ⟨w.heap.size, 0, none⟩) 1 1] 36)) base (.slice (some ⟨w.heap.size + 1, 0, none⟩) 1 1) [[0]] (fun _ => w.heap.size) (fun _ => 1) := by
  have h1 : Box (w.alloc (Obj.cells #[Value.int .i64 0] 3)) w.heap.size 3 #[Value.int .i64 0] := Box.new _ _ _
  have h2 := Box.new (w.alloc (Obj.cells #[Value.int .i64 0] 3)) 36 #[Value.slice (some ⟨w.heap.size, 0, none⟩) 1 1]
  have e : (w.alloc (Obj.cells #[Value.int .i64 0] 3)).heap.size = w.heap.size + 1 := by simp
  rw [e] at h2
  refine ⟨⟨by simp, .inr ⟨w.heap.size + 1, 1, _, rfl, by omega, h2, by simp, by decide, by simp, by simp⟩⟩, fun i hi => ?_, fun i j hi hj _ => ?_⟩
  · obtain rfl : i = 0 := by simpa using hi
    exact ⟨hb, OwnR.of_box (h1.alloc _) rfl (by simp) (by decide) rfl⟩
  · have h3 : i = 0 := by simpa using hi
    have h4 : j = 0 := by simpa using hj
    omega

set_option maxRecDepth 100000 in
set_option maxHeartbeats 4000000 in
theorem some_any (A : Option Addr) (l : List (List Int)) (c many most : Nat) (w : World) (hr : RDice w w.heap.size A l) (hl : l.length ≤ 9223372036854775807) (hd : ∀ x ∈ l, x.length ≤ 9223372036854775807) (hmost : most ≤ 1000) (hmany : many ≤ 1000) :
    Calls Try.prog 36 #[.slice A l.length c, .int .i64 many, .int .i64 most] w (GaveD w (someL l many most)) := by
  have HR := Lib.hid hr
  have HD := Lib.hid hd
  clear hr hd
  go_enter Try.func36, Try.ntmps36
  go_wp2_with fail
  go_loopg [7, 8] (min l.length many) (fun g v i wx => ∃ (k : Nat) (G K : Nat → Nat), k + g = min l.length many ∧ i = .int .i64 k ∧ OwnD wx w.heap.size v ((l.take k).map fun d => madeL d most) G K ∧ Below w.heap.size w wx)
  case atStart => exact ⟨0, _, _, by omega, rfl, OwnD.nil_ w _, Below.refl _ _⟩
  case round =>
    obtain ⟨k, G, K, hkg, rfl, hv, hB⟩ := hrel
    cases gk with
    | zero =>
      have HB := Lib.hid hB
      have hlen : ((l.take k).map fun d => madeL d most).length = k := by simp; omega
      have hsome : someL l many most = if k = 0 then [[0]] else (l.take k).map fun d => madeL d most := by
        unfold someL
        have e : l.take many = l.take k := by
          have hk : k = min l.length many := by omega
          rcases Nat.le_total l.length many with h9 | h9
          · rw [List.take_of_length_le h9, List.take_of_length_le (by omega)]
          · rw [hk, Nat.min_eq_right h9]
        rw [e, List.length_take, Nat.min_eq_left (by omega)]
      obtain ⟨ds, hds⟩ : ∃ ds, (l.take k).map (fun d => madeL d most) = ds := ⟨_, rfl⟩
      rw [hds] at hv hlen hsome
      have HV := Lib.hid hv
      rcases Nat.eq_zero_or_pos k with h0 | h0
      · have HS := Lib.hid (show someL l many most = [[0]] by rw [hsome, if_pos h0])
        subst h0
        rw [show ((0 : Nat) : Int) = 0 from rfl]
        rcases hv.top.2 with ⟨e1, _⟩ | ⟨g', cap, cur, e1, _⟩
        · subst e1
          by_cases hl0 : (0 : Int) < (l.length : Int)
          · have hm0 : ¬ (0 : Int) < (many : Int) := by omega
            clear hv hB hds hsome hlen hkg
            go_wp2_with fail
            go_ret
            rw [HS.out]
            exact ⟨_, _, _, rfl, OwnD.one wr HB.out.size, (HB.out.alloc HB.out.size _).alloc (by have := HB.out.size; simp; omega) _⟩
          · clear hv hB hds hsome hlen hkg
            go_wp2_with fail
            go_ret
            rw [HS.out]
            exact ⟨_, _, _, rfl, OwnD.one wr HB.out.size, (HB.out.alloc HB.out.size _).alloc (by have := HB.out.size; simp; omega) _⟩
        · rw [hlen] at e1
          subst e1
          by_cases hl0 : (0 : Int) < (l.length : Int)
          · have hm0 : ¬ (0 : Int) < (many : Int) := by omega
            clear hv hB hds hsome hlen hkg
            go_wp2_with fail
            go_ret
            rw [HS.out]
            exact ⟨_, _, _, rfl, OwnD.one wr HB.out.size, (HB.out.alloc HB.out.size _).alloc (by have := HB.out.size; simp; omega) _⟩
          · clear hv hB hds hsome hlen hkg
            go_wp2_with fail
            go_ret
            rw [HS.out]
            exact ⟨_, _, _, rfl, OwnD.one wr HB.out.size, (HB.out.alloc HB.out.size _).alloc (by have := HB.out.size; simp; omega) _⟩
      · have HS := Lib.hid (show someL l many most = ds by rw [hsome, if_neg (by omega)])
        obtain ⟨A9, c9, e1, hc9, _⟩ := hv.reads
        rw [hlen] at e1
        subst e1
        have hk1 : ((k : Int) == 0) = false := by rw [beq_eq_false_iff_ne]; omega
        by_cases hl0 : (k : Int) < (l.length : Int)
        · have hm0 : ¬ (k : Int) < (many : Int) := by omega
          clear hv hB hds hsome hlen hkg
          go_wp2_with fail
          go_ret
          rw [HS.out]
          exact ⟨_, _, _, rfl, HV.out, HB.out⟩
        · clear hv hB hds hsome hlen hkg
          go_wp2_with fail
          go_ret
          rw [HS.out]
          exact ⟨_, _, _, rfl, HV.out, HB.out⟩
    | succ g =>
      have hki : (k : Int) < (l.length : Int) := by omega
      have hkm : (k : Int) < (many : Int) := by omega
      have hk0 : (0 : Int) ≤ (k : Int) := by omega
      obtain ⟨b, o, a, cc, d, hA, hb, hx, hcx, hdc, hrd⟩ := HR.out.at_ (k := k) (by omega)
      subst hA
      have hcx2 : wr.cell? ⟨b, o + k, none⟩ = some (.slice a d.length cc) := (hB.cell (p := ⟨b, o + k, none⟩) hb).trans hcx
      obtain ⟨ds, hds⟩ : ∃ ds, (l.take k).map (fun d => madeL d most) = ds := ⟨_, rfl⟩
      have HDS := Lib.hid (show (l.take (k + 1)).map (fun d => madeL d most) = ds ++ [madeL d most] by
        have hk9 := List.getElem?_eq_some_iff.1 hx
        rw [List.take_succ_eq_append_getElem hk9.1, hk9.2, List.map_append, hds]
        rfl)
      have HLN := Lib.hid (show ds.length = k by rw [← hds]; simp; omega)
      rw [hds] at hv
      have HM := Lib.hid (made_any a d cc most wr ((hrd.below hB).more hB.size) (HD.out d (List.mem_of_getElem? hx)) hmost)
      have HV := Lib.hid hv
      have HB := Lib.hid hB
      clear hcx hrd hv hB hx hds
      go_wp2_with fail
      refine HM.out.mono ?_
      rintro e w1 ⟨g1, k1, rfl, hg1, ho1, hb1⟩
      obtain ⟨m, hm⟩ : ∃ m, madeL d most = m := ⟨_, rfl⟩
      rw [hm] at ho1 HDS ⊢
      have HV1 := Lib.hid (HV.out.below hb1)
      have HB1 := Lib.hid (HB.out.trans (hb1.mono HB.out.size))
      have HO1 := Lib.hid ho1
      have HNE := Lib.hid (HV.out.not_at hg1)
      have hwg : w.heap.size ≤ g1 := by have := HB.out.size; omega
      have hcn : ∀ (x : Value) (j : Nat) (u : Value), [x][j]? = some u → (w1.alloc (Obj.cells #[x] 36)).cell? ((⟨w1.heap.size, 0, none⟩ : Addr).add j) = some u := fun x j u hu => by
        cases j with
        | zero =>
          have e : x = u := by simpa using hu
          subst e
          exact (Box.new w1 36 #[x]).cell 0
        | succ j => simp at hu
      have HCN := Lib.hid hcn
      have hsz1 : w.heap.size ≤ (w1.alloc (Obj.cells #[Value.slice (some ⟨g1, 0, none⟩) m.length k1] 36)).heap.size := by
        have := HB1.out.size
        simp
        omega
      have HSZ := Lib.hid hsz1
      obtain ⟨i0, hi, hz0, hz1, hz2⟩ := info_parts Try.info36
      clear hm ho1 hb1 hcn hsz1 HM
      go_wp2_with (first
        | (at_builtin; (refine wpList_append_own_at _ rfl _ _ 22 rfl w.heap.size 36 i0 (.slice none 0 0) 1 24 Try.underlying22 hi hz0 hz1 hz2 rfl (by decide) _ _ _ rfl (HV1.out.alloc _).top ⟨w1.heap.size, 0, none⟩ 1 1 [.slice (some ⟨g1, 0, none⟩) m.length k1] rfl rfl (HCN.out _) (by simp [Value.oneCell']) (by have := HLN.out; unfold maxLen; omega) (by have := HLN.out; omega) HSZ.out ?_; intro v2 w2 ht2 hg2 _ hat2; have HT2 := Lib.hid ht2; have HG2 := Lib.hid hg2; have HAT2 := Lib.hid hat2; clear ht2 hg2 hat2)))
      go_roundg g
      case measure => omega
      case rel =>
        have h9 := OwnD.more (HV1.out.alloc _) HG2.out rfl (HO1.out.alloc _) hwg HNE.out.1 HNE.out.2 HT2.out
        rw [← HDS.out] at h9
        exact ⟨k + 1, _, _, by omega, by go_num, h9, ((HB1.out.alloc HB1.out.size _).grown HG2.out HSZ.out (fun j hj => (HV1.out.blk j hj).1))⟩
end Go.Proofs.Ytkkholagmjcgiaa
