/- The function pairs of package dice: from a map of ways it finds just what the plain search finds; nothing but the map turns. -/
import Derived.Test.YtkkholagmjcgiaaPairs3
import Derived.Laws.EntriesVeiled
namespace Go.Proofs.Ytkkholagmjcgiaa
open Go.RowKit Go.Maps

theorem rising_unique : ∀ {a b : List Int}, a.Pairwise (· < ·) → b.Pairwise (· < ·) → (∀ x, x ∈ a ↔ x ∈ b) → a = b
  | [], [], _, _, _ => rfl
  | [], y :: r, _, _, h => by have := (h y).2 (by simp); simp at this
  | x :: r, [], _, _, h => by have := (h x).1 (by simp); simp at this
  | x :: r, y :: t, ha, hb, h => by
    have ha2 := List.pairwise_cons.1 ha
    have hb2 := List.pairwise_cons.1 hb
    have hxy : x = y := by
      rcases List.mem_cons.1 ((h x).1 (by simp)) with e | e
      · exact e
      · rcases List.mem_cons.1 ((h y).2 (by simp)) with e2 | e2
        · exact e2.symm
        · have := hb2.1 x e
          have := ha2.1 y e2
          omega
    subst hxy
    rw [rising_unique ha2.2 hb2.2 fun z => ?_]
    constructor
    · intro hz
      rcases List.mem_cons.1 ((h z).1 (by simp [hz])) with e | e
      · have := ha2.1 z hz
        omega
      · exact e
    · intro hz
      rcases List.mem_cons.1 ((h z).2 (by simp [hz])) with e | e
      · have := hb2.1 z hz
        omega
      · exact e

/-- What pairs asks of the ways that it is handed. -/
structure PairsIn (n m : Nat) (c0 d0 : Int) (f : Int → Int) (S : Int → Bool) (ks : List Int) : Prop where
  nm : 1 ≤ n ∧ n ≤ 8 ∧ 1 ≤ m ∧ m ≤ 8
  cd : 0 ≤ c0 ∧ c0 ≤ 60 ∧ 0 ≤ d0 ∧ d0 ≤ 60
  rise : ks.Pairwise (· < ·)
  keyS : ∀ x, W64 x → (x ∈ ks ↔ S x = true)
  kr : ∀ x ∈ ks, c0 + d0 ≤ x ∧ x ≤ 1000
  rng : ∀ y, 0 ≤ f y ∧ f y ≤ 1000000
  key : ∀ y, f y ≠ 0 → y ∈ ks
  sum : sumF f ks = (n : Int) * m
  one : f (c0 + d0) ≠ 0
  len : ks.length ≤ 100000

/-- What pairs finds. -/
def pairsL (n m : Nat) (c0 d0 : Int) (f : Int → Int) (ks : List Int) : List (List Int × List Int) := growL 15 n m ks 0 (-1) [c0] [d0] (tk f c0 [d0])

theorem PairsIn.inv {n m : Nat} {c0 d0 : Int} {f : Int → Int} {S : Int → Bool} {ks : List Int} (h : PairsIn n m c0 d0 f S ks) : Inv n m ks 0 [c0] [d0] (tk f c0 [d0]) := by
  have hnm := h.nm
  have hcd := h.cd
  have hnd : ks.Nodup := by
    rw [List.nodup_iff_pairwise_ne]
    exact h.rise.imp fun hab => by omega
  have hok : okT f c0 [d0] = true := by simp [okT, h.one]
  have hn0 := okT_nonneg c0 [d0] f (fun y => (h.rng y).1) hok
  have hle : ∀ y, tk f c0 [d0] y ≤ f y := fun y => by rw [tk_eq]; have := cnt_nonneg c0 [d0] y; omega
  refine ⟨fun y => ⟨hn0 y, by have := hle y; have := h.rng y; omega⟩, fun y hy => h.key y (fun e => hy (by have := hle y; have := hn0 y; omega)), ?_, fun j s hj => by omega, ⟨hnm.2.1, hnm.2.2.2⟩, by simp; omega, by simp; omega, by simp; omega, by simp; omega, fun s hs => by simpa using h.kr s hs, hnd⟩
  have e : tk f c0 [d0] = fun y => f y - cnt c0 [d0] y := by funext y; exact tk_eq _ _ _ _
  rw [e, sumF_le, sumF_cnt c0 ks hnd [d0] (by simpa using h.key _ h.one), h.sum]
  simp

theorem own_one (w : World) (x : Int) : OwnR (w.alloc (Obj.cells #[Value.int .i64 x] 3)) w.heap.size 1 [x] :=
  OwnR.of_box (Box.new w 3 #[.int .i64 x]) rfl (by simp) (by unfold maxLen; omega) rfl

/-- The state of memory where the search begins. -/
theorem St.begin {w w4 w5 w6 : World} {M N n m gz cz : Nat} {c0 d0 : Int} {f : Int → Int} {S : Int → Bool} {zs : List Int} (hsz4 : w4.heap.size = w.heap.size + 1 + 1 + 1 + 1 + 1) (hs5 : w4.heap.size ≤ w5.heap.size) (hMl : M < w.heap.size)
    (hBs : Box w5 (w.heap.size + 1) 100 #[.int .i64 n, .int .i64 m]) (hBl : Box w5 w.heap.size 80 #[.map (some M)]) (hBf : Box w5 (w.heap.size + 1 + 1 + 1) 50 #[.slice none 0 0]) (hoz : OwnR w5 gz cz zs) (hgzM : gz ≠ M) (hN : N ≤ 1000000) (hin : PairsIn n m c0 d0 f S zs)
    (hm6 : MapF w6 M N (tk f c0 [d0]) S)
    (hg6 : ((((w5.alloc (Obj.cells #[.slice (some ⟨gz, 0, none⟩) zs.length cz] 36)).alloc (Obj.cells #[.int .i64 c0] 3)).alloc (Obj.cells #[.int .i64 d0] 3)).alloc (Obj.cells #[.slice (some ⟨w5.heap.size + 1, 0, none⟩) 1 1, .slice (some ⟨w5.heap.size + 1 + 1, 0, none⟩) 1 1] 77)).grownBy w6 (some M)) (E : Env)
    (hE : E = { Bp := w5.heap.size + 1 + 1 + 1, Bs := w.heap.size + 1, Bf := w.heap.size + 1 + 1 + 1, Bl := w.heap.size, Bq := w5.heap.size, Bg := w6.heap.size, M := M, N := N, n := n, m := m, gz := gz, cz := cz, sums := zs, S := S }) :
    St E (fun i => i < w.heap.size ∨ i = w5.heap.size + 1 ∨ i = w5.heap.size + 1 + 1 ∨ i = w5.heap.size + 1 + 1 + 1) (w6.alloc (Obj.cells #[.func (.func 98) #[] E.caps] 114)) (w5.heap.size + 1) 1 (w5.heap.size + 1 + 1) 1 (.slice none 0 0) [c0] [d0] (tk f c0 [d0]) [] := by
  subst hE
  have s6 := hg6.size
  have hzl := hoz.lt
  have sA : ((((w5.alloc (Obj.cells #[.slice (some ⟨gz, 0, none⟩) zs.length cz] 36)).alloc (Obj.cells #[.int .i64 c0] 3)).alloc (Obj.cells #[.int .i64 d0] 3)).alloc (Obj.cells #[.slice (some ⟨w5.heap.size + 1, 0, none⟩) 1 1, .slice (some ⟨w5.heap.size + 1 + 1, 0, none⟩) 1 1] 77)).heap.size = w5.heap.size + 4 := by simp
  rw [sA] at s6
  have b1 : ∀ {g : Nat} {t : TypeId} {cs : Array Value} (o : Obj), Box w5 g t cs → g ≠ M → Box (w6.alloc o) g t cs := fun o hb hne => (((((hb.alloc _).alloc _).alloc _).alloc _).grown hg6 (fun e => hne (by injection e))).alloc o
  have q1 : Box (w5.alloc (Obj.cells #[.slice (some ⟨gz, 0, none⟩) zs.length cz] 36)) w5.heap.size 36 #[.slice (some ⟨gz, 0, none⟩) zs.length cz] := Box.new _ _ _
  have r0 := own_one (w5.alloc (Obj.cells #[.slice (some ⟨gz, 0, none⟩) zs.length cz] 36)) c0
  have r1 := own_one ((w5.alloc (Obj.cells #[.slice (some ⟨gz, 0, none⟩) zs.length cz] 36)).alloc (Obj.cells #[.int .i64 c0] 3)) d0
  have r2 := Box.new (((w5.alloc (Obj.cells #[.slice (some ⟨gz, 0, none⟩) zs.length cz] 36)).alloc (Obj.cells #[.int .i64 c0] 3)).alloc (Obj.cells #[.int .i64 d0] 3)) 77 #[.slice (some ⟨w5.heap.size + 1, 0, none⟩) 1 1, .slice (some ⟨w5.heap.size + 1 + 1, 0, none⟩) 1 1]
  have x1 : (w5.alloc (Obj.cells #[.slice (some ⟨gz, 0, none⟩) zs.length cz] 36)).heap.size = w5.heap.size + 1 := by simp
  have x2 : ((w5.alloc (Obj.cells #[.slice (some ⟨gz, 0, none⟩) zs.length cz] 36)).alloc (Obj.cells #[.int .i64 c0] 3)).heap.size = w5.heap.size + 1 + 1 := by simp
  have x3 : (((w5.alloc (Obj.cells #[.slice (some ⟨gz, 0, none⟩) zs.length cz] 36)).alloc (Obj.cells #[.int .i64 c0] 3)).alloc (Obj.cells #[.int .i64 d0] 3)).heap.size = w5.heap.size + 1 + 1 + 1 := by simp
  rw [x1] at r0
  rw [x2] at r1
  rw [x3] at r2
  have hoM : ∀ {g k : Nat} {zs' : List Int}, OwnR w5 g k zs' → g < w5.heap.size := fun h => h.lt
  refine ⟨⟨b1 _ hBs (show w.heap.size + 1 ≠ M by omega), b1 _ hBl (show w.heap.size ≠ M by omega), ((((q1.alloc _).alloc _).alloc _).grown hg6 (fun e => by injection e with e; omega)).alloc _, Box.new w6 _ _, ?_, hin.len, fun y hy => ?_, by show N < 1000000000; omega⟩, ?_, b1 _ hBf (show w.heap.size + 1 + 1 + 1 ≠ M by omega), hm6.alloc _, ?_, ?_, ?_, ?_, ⟨.inr (.inl rfl), .inr (.inr (.inl rfl)), .inr (.inr (.inr rfl))⟩, ?_⟩
  · exact ((((((hoz.alloc _).alloc _).alloc _).alloc _).grown hg6 (fun e => hgzM (by injection e))).alloc _)
  · have := hin.kr y hy
    have hcd := hin.cd
    exact (hin.keyS y ⟨by omega, by omega⟩).1 hy
  · exact (r2.grown hg6 (fun e => by injection e with e; omega)).alloc _
  · exact (((r0.alloc _).alloc _).grown hg6 (fun e => by injection e with e; omega)).alloc _
  · exact ((r1.alloc _).grown hg6 (fun e => by injection e with e; omega)).alloc _
  · exact ⟨by omega, show w5.heap.size + 1 ≠ gz by omega, show w5.heap.size + 1 + 1 ≠ gz by omega⟩
  · exact ⟨[], rfl, ⟨by simp, .inl ⟨rfl, rfl⟩⟩, (fun g hg => by cases hg), (fun i p q h1 h2 => by simp at h1)⟩
  · intro i hi
    rw [show ∀ o : Obj, (w6.alloc o).heap.size = w6.heap.size + 1 from fun o => by simp]
    rcases hi with e | e | e | e <;> omega

set_option maxRecDepth 100000 in
set_option maxHeartbeats 2000000 in
theorem pairs_fresh (M N n m : Nat) (c0 d0 : Int) (f : Int → Int) (S : Int → Bool) (ks : List Int) (w : World) (hm : MapF w M N f S) (hN : N ≤ 1000000) (hin : PairsIn n m c0 d0 f S ks) :
    Calls Try.prog 72 #[.map (some M), .agg #[.int .i64 n, .int .i64 m], .agg #[.int .i64 c0, .int .i64 d0]] w fun e w' => ∃ fv, e = .returned fv ∧ OutOk (fun i => i < w.heap.size) w' fv (pairsL n m c0 d0 f ks) ∧ w.grownBy w' (some M) := by
  have HM := Lib.hid hm
  have HIN := Lib.hid hin
  have hMl := hm.lt
  have hcd := hin.cd
  obtain ⟨h1, h2, h3, h4⟩ := hcd
  have hfr := hin.rng (c0 + d0)
  have hf1 := hin.one
  have HW := Lib.hid (show W64 (c0 + d0) from ⟨by omega, by omega⟩)
  have HW2 := Lib.hid (show W64 (f (c0 + d0) - 1) from ⟨by omega, by omega⟩)
  have HS := Lib.hid ((hin.keyS _ HW.out).1 (hin.key _ hin.one))
  clear hm hin
  go_enter Try.func72, Try.ntmps72
  go_wp2_with fail
  refine (Keys_any _ _).mono ?_
  rintro e w' ⟨rfl, rfl⟩
  go_wp2_with fail
  obtain ⟨w4, hw4⟩ : ∃ w4, ((((w.alloc (Obj.cells #[Value.map (some M)] 80)).alloc (Obj.cells #[Value.int IntKind.i64 n, Value.int IntKind.i64 m] 100)).alloc (Obj.cells #[Value.int IntKind.i64 c0, Value.int IntKind.i64 d0] 100)).alloc (Obj.cells #[Value.slice none 0 0] 50)).alloc (Obj.cells #[Value.map (some M)] 80) = w4 := ⟨_, rfl⟩
  have hsz4 : w4.heap.size = w.heap.size + 1 + 1 + 1 + 1 + 1 := by rw [← hw4]; simp
  have hBl : Box w4 w.heap.size 80 #[.map (some M)] := by rw [← hw4]; exact ((((Box.new w _ _).alloc _).alloc _).alloc _).alloc _
  have hBs : Box w4 (w.heap.size + 1) 100 #[.int .i64 n, .int .i64 m] := by
    rw [← hw4]
    have := ((((Box.new (w.alloc (Obj.cells #[Value.map (some M)] 80)) 100 #[.int .i64 n, .int .i64 m]).alloc (Obj.cells #[Value.int IntKind.i64 c0, Value.int IntKind.i64 d0] 100)).alloc (Obj.cells #[Value.slice none 0 0] 50)).alloc (Obj.cells #[Value.map (some M)] 80))
    simpa using this
  have hBe : Box w4 (w.heap.size + 1 + 1) 100 #[.int .i64 c0, .int .i64 d0] := by
    rw [← hw4]
    have := (((Box.new ((w.alloc (Obj.cells #[Value.map (some M)] 80)).alloc (Obj.cells #[Value.int IntKind.i64 n, Value.int IntKind.i64 m] 100)) 100 #[.int .i64 c0, .int .i64 d0]).alloc (Obj.cells #[Value.slice none 0 0] 50)).alloc (Obj.cells #[Value.map (some M)] 80))
    simpa using this
  have hBf : Box w4 (w.heap.size + 1 + 1 + 1) 50 #[.slice none 0 0] := by
    rw [← hw4]
    have := ((Box.new (((w.alloc (Obj.cells #[Value.map (some M)] 80)).alloc (Obj.cells #[Value.int IntKind.i64 n, Value.int IntKind.i64 m] 100)).alloc (Obj.cells #[Value.int IntKind.i64 c0, Value.int IntKind.i64 d0] 100)) 50 #[.slice none 0 0]).alloc (Obj.cells #[Value.map (some M)] 80))
    simpa using this
  have hit : w4.cell? ⟨w.heap.size + 1 + 1 + 1 + 1, 0, none⟩ = some (.map (some M)) := by
    rw [← hw4]
    have := (Box.new ((((w.alloc (Obj.cells #[Value.map (some M)] 80)).alloc (Obj.cells #[Value.int IntKind.i64 n, Value.int IntKind.i64 m] 100)).alloc (Obj.cells #[Value.int IntKind.i64 c0, Value.int IntKind.i64 d0] 100)).alloc (Obj.cells #[Value.slice none 0 0] 50)) 80 #[.map (some M)]).cell 0
    simpa using this
  have hM4 : MapF w4 M N f S := by rw [← hw4]; exact ((((HM.out.alloc _).alloc _).alloc _).alloc _).alloc _
  have hG4 : w.grownBy w4 none := by
    rw [← hw4]
    exact ((((World.grownBy_alloc w _ none).andThen (World.grownBy_alloc _ _ none) (by simp)).andThen (World.grownBy_alloc _ _ none) (by simp)).andThen (World.grownBy_alloc _ _ none) (by simp)).andThen (World.grownBy_alloc _ _ none) (by simp)
  rw [hw4]
  clear hw4
  refine (Sorted_any (w.heap.size + 1 + 1 + 1 + 1) M N f S w4 (by omega) hit hM4 (by omega)).mono ?_
  rintro e w5 ⟨A, cz, zs, rfl, hcz, hrz, hrise, hzw, hzS, hzl, hb5, hoz⟩
  have hzk : zs = ks := rising_unique hrise HIN.out.rise fun x => by
    constructor
    · intro hx
      exact (HIN.out.keyS x (hzw x hx)).2 ((hzS x (hzw x hx)).1 hx)
    · intro hx
      have := HIN.out.kr x hx
      have hx64 : W64 x := ⟨by omega, by omega⟩
      exact (hzS x hx64).2 ((HIN.out.keyS x hx64).1 hx)
  subst hzk
  have hpos : 1 ≤ zs.length := List.length_pos_of_mem (HIN.out.key _ HIN.out.one)
  obtain ⟨gz, rfl, hgz, hoz⟩ := hoz hpos
  have hs5 := hb5.size
  have xl := hBl.below hb5 (by omega)
  have xe := hBe.below hb5 (by omega)
  have e1 : ∀ a, (w5.alloc a).cell? ⟨w.heap.size + 1 + 1, 0, none⟩ = some (.int .i64 c0) := fun a => (xe.alloc a).cell 0
  have e2 : ∀ a b, ((w5.alloc a).alloc b).cell? ⟨w.heap.size + 1 + 1, 1, none⟩ = some (.int .i64 d0) := fun a b => ((xe.alloc a).alloc b).cell 1
  have e3 : ∀ a b c d, ((((w5.alloc a).alloc b).alloc c).alloc d).cell? ⟨w.heap.size + 1 + 1, 0, none⟩ = some (.int .i64 c0) := fun a b c d => ((((xe.alloc a).alloc b).alloc c).alloc d).cell 0
  have e4 : ∀ a b c d, ((((w5.alloc a).alloc b).alloc c).alloc d).cell? ⟨w.heap.size + 1 + 1, 1, none⟩ = some (.int .i64 d0) := fun a b c d => ((((xe.alloc a).alloc b).alloc c).alloc d).cell 1
  have e5 : ∀ a b c d, ((((w5.alloc a).alloc b).alloc c).alloc d).cell? ⟨w.heap.size, 0, none⟩ = some (.map (some M)) := fun a b c d => ((((xl.alloc a).alloc b).alloc c).alloc d).cell 0
  have hM5 : MapF w5 M N f S := hM4.kept (bg hb5) (by simp)
  go_wp2_with (first
    | (at_lookup; refine wpList_look _ rfl _ _ rfl rfl ((((hM5.alloc _).alloc _).alloc _).alloc _) _ rfl HW.out ?_)
    | (at_mapUpdate; refine wpList_put _ rfl _ _ _ rfl rfl ((((hM5.alloc _).alloc _).alloc _).alloc _) (by omega) _ _ rfl rfl HW.out HW2.out HS.out ?_; intro w6 hm6 hg6))
  obtain ⟨E, hE⟩ : ∃ E : Env, E = { Bp := w5.heap.size + 1 + 1 + 1, Bs := w.heap.size + 1, Bf := w.heap.size + 1 + 1 + 1, Bl := w.heap.size, Bq := w5.heap.size, Bg := w6.heap.size, M := M, N := N, n := n, m := m, gz := gz, cz := cz, sums := zs, S := S } := ⟨_, rfl⟩
  have hst := St.begin (c0 := c0) (d0 := d0) hsz4 hs5 hMl (hBs.below hb5 (by omega)) (hBl.below hb5 (by omega)) (hBf.below hb5 (by omega)) hoz (by omega) hN HIN.out hm6 hg6 E hE
  have hgr := grow_any E 15 _ _ 0 (-1) _ _ _ _ _ _ _ _ _ hst (by rw [hE]; exact HIN.out.inv) (by rw [hE]; have := HIN.out.nm; simp; omega) (by omega) (by omega) (by omega) (by simp)
  have HT := Lib.hid (show Turn (fun i => i = M) w (w6.alloc (Obj.cells #[.func (.func 98) #[] E.caps] 114)) from
    ((((((((Turn.refl _ w).grown hG4 (by simp)).below hb5 (by omega)).alloc _).alloc _).alloc _).alloc _).grown hg6 (fun k e => by injection e with e; exact .inl e.symm)).alloc _)
  have HST := Lib.hid hst
  rw [hE] at hgr
  refine hgr.mono ?_
  rintro e w7 ⟨rfl, fv7, hst7, hT7, hfv7⟩
  have f7 := hst7.found.cell 0
  simp only [List.getElem?_toArray, List.getElem?_cons_zero] at f7
  have HO := Lib.hid hst7.out
  have HT7 := Lib.hid hT7
  clear hst7 hT7 hgr hst hfv7
  go_wp2_with fail
  go_ret
  refine ⟨fv7, rfl, ?_, ?_⟩
  · exact HO.out.same (fun _ _ _ _ => rfl) (fun _ _ _ _ _ => rfl) (fun i _ h => .inl h)
  · have h7 := HT7.out
    have hT0 := HT.out
    rw [hE] at hT0
    refine (hT0.trans h7 fun i hi hx => ?_).toGrown fun i _ e => by rw [e]
    rcases hx with e | e | e | e | e | e
    · have e2 : i = w5.heap.size + 1 := e
      omega
    · have e2 : i = w5.heap.size + 1 + 1 := e
      omega
    · have e2 : i = w5.heap.size + 1 + 1 + 1 := e
      omega
    · have e2 : i = w.heap.size + 1 + 1 + 1 := e
      omega
    · exact e
    · cases e

theorem OutOk.fewer {Z Y : Nat → Prop} {w : World} {fv : Value} {F : List (List Int × List Int)} (h : OutOk Z w fv F) (hz : ∀ i, Y i → Z i) : OutOk Y w fv F := by
  obtain ⟨vs, h1, h2, h3, h4⟩ := h
  refine ⟨vs, h1, h2, fun g hg hy => h3 g hg (hz g hy), fun i p q hp hq => ?_⟩
  obtain ⟨⟨g, k, e, n, ho⟩, g', k', e', n', ho'⟩ := h4 i p q hp hq
  exact ⟨⟨g, k, e, fun h => n (hz g h), ho⟩, g', k', e', fun h => n' (hz g' h), ho'⟩
theorem OutOk.any {Z : Nat → Prop} {w : World} {fv : Value} {F : List (List Int × List Int)} (h : OutOk Z w fv F) : OutOk (fun _ => False) w fv F := h.fewer fun _ h => h.elim
set_option maxRecDepth 100000 in
theorem pairs_any (M N n m : Nat) (c0 d0 : Int) (f : Int → Int) (S : Int → Bool) (ks : List Int) (w : World) (hm : MapF w M N f S) (hN : N ≤ 1000000) (hin : PairsIn n m c0 d0 f S ks) :
    Calls Try.prog 72 #[.map (some M), .agg #[.int .i64 n, .int .i64 m], .agg #[.int .i64 c0, .int .i64 d0]] w fun e w' => ∃ fv, e = .returned fv ∧ OutOk (fun _ => False) w' fv (pairsL n m c0 d0 f ks) ∧ w.grownBy w' (some M) :=
  (pairs_fresh M N n m c0 d0 f S ks w hm hN hin).mono fun _ _ ⟨fv, h1, h2, h3⟩ => ⟨fv, h1, h2.any, h3⟩

end Go.Proofs.Ytkkholagmjcgiaa
