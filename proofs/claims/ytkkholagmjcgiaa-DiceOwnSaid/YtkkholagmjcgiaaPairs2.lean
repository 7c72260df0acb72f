/- The closure grow inside pairs of package dice: what each of its stores means for the state of memory. No walk. -/
import Derived.Test.YtkkholagmjcgiaaPairs0
namespace Go.Proofs.Ytkkholagmjcgiaa
open Go.RowKit Go.Maps

theorem EnvOk.drewN {E : Env} {w : World} (h : EnvOk E w) (n : Nat) : EnvOk E (w.drewN n) := ⟨h.sizes, h.left, h.sm, h.gr, h.sr, h.sl, h.keys, h.nn⟩
theorem St.drewN {E : Env} {Z : Nat → Prop} {w : World} {g0 k0 g1 k1 : Nat} {fv : Value} {c d : List Int} {f : Int → Int} {F : List (List Int × List Int)} (h : St E Z w g0 k0 g1 k1 fv c d f F) (n : Nat) : St E Z (w.drewN n) g0 k0 g1 k1 fv c d f F :=
  ⟨h.env.drewN n, h.pair, h.found, h.map, h.own0, h.own1, h.ne, h.out, h.z, h.zlt⟩
theorem Post.drewN {E : Env} {Z : Nat → Prop} {w w' : World} {g0 k0 g1 k1 : Nat} {fv : Value} {c d : List Int} {f : Int → Int} {F : List (List Int × List Int)} (h : Post E Z w g0 k0 g1 k1 fv c d f F w') (n : Nat) : Post E Z w g0 k0 g1 k1 fv c d f F (w'.drewN n) := by
  obtain ⟨fv', h1, h2, h3⟩ := h
  exact ⟨fv', h1.drewN n, h2.drewN n, h3⟩
theorem Post.start {E : Env} {Z : Nat → Prop} {w : World} {g0 k0 g1 k1 : Nat} {fv : Value} {c d : List Int} {f : Int → Int} {F : List (List Int × List Int)} (h : St E Z w g0 k0 g1 k1 fv c d f F) : Post E Z w g0 k0 g1 k1 fv c d f F w :=
  ⟨fv, h, Turn.refl _ _, .inl rfl⟩

theorem St.cells {E : Env} {Z : Nat → Prop} {w : World} {g0 k0 g1 k1 : Nat} {fv : Value} {c d : List Int} {f : Int → Int} {F : List (List Int × List Int)} (h : St E Z w g0 k0 g1 k1 fv c d f F) :
    w.cell? ⟨E.Bp, 0, none⟩ = some (.slice (some ⟨g0, 0, none⟩) c.length k0) ∧ w.cell? ⟨E.Bp, 1, none⟩ = some (.slice (some ⟨g1, 0, none⟩) d.length k1) ∧ w.cell? ⟨E.Bs, 0, none⟩ = some (.int .i64 E.n) ∧ w.cell? ⟨E.Bs, 1, none⟩ = some (.int .i64 E.m) ∧
    w.cell? ⟨E.Bl, 0, none⟩ = some (.map (some E.M)) ∧ w.cell? ⟨E.Bq, 0, none⟩ = some (.slice (some ⟨E.gz, 0, none⟩) E.sums.length E.cz) ∧ w.cell? ⟨E.Bg, 0, none⟩ = some (.func (.func 98) #[] E.caps) := by
  refine ⟨?_, ?_, ?_, ?_, ?_, ?_, ?_⟩
  · exact h.pair.cell 0
  · exact h.pair.cell 1
  · exact h.env.sizes.cell 0
  · exact h.env.sizes.cell 1
  · exact h.env.left.cell 0
  · exact h.env.sm.cell 0
  · exact h.env.gr.cell 0

/-- The row of what is found is none of the rows of integers, and not the box of the pair. -/
theorem St.fvBlock {E : Env} {Z : Nat → Prop} {w : World} {g0 k0 g1 k1 : Nat} {fv : Value} {c d : List Int} {f : Int → Int} {F : List (List Int × List Int)} (h : St E Z w g0 k0 g1 k1 fv c d f F) : ∀ g, fv.ownBlock = some g → g < w.heap.size ∧ ¬ Z g ∧ ∃ cur, Box w g 77 cur := by
  obtain ⟨vs, _, ho, hz, _⟩ := h.out
  intro g hg
  exact ⟨(outBlock_lt ho g hg).1, hz g hg, (outBlock_lt ho g hg).2⟩

theorem OutOk.same {Z Z' : Nat → Prop} {w w' : World} {fv : Value} {F : List (List Int × List Int)} (h : OutOk Z w fv F) (hs : ∀ g cur, Box w g 77 cur → ¬ Z g → w'.heap[g]? = w.heap[g]?) (hr : ∀ g k zs, OwnR w g k zs → ¬ Z g → w'.heap[g]? = w.heap[g]?) (hZ : ∀ i, i < w.heap.size → Z' i → Z i) : OutOk Z' w' fv F := by
  obtain ⟨vs, hl, ho, hz, hc⟩ := h
  refine ⟨vs, hl, own_same ho fun g hg => ?_, fun g hg hx => hz g hg (hZ g (outBlock_lt ho g hg).1 hx), fun i p q h1 h2 => ?_⟩
  · obtain ⟨_, cur, hb⟩ := outBlock_lt ho g hg
    exact hs g cur hb (hz g hg)
  · obtain ⟨⟨ga, ka, e1, z1, o1⟩, ⟨gb, kb, e2, z2, o2⟩⟩ := hc i p q h1 h2
    exact ⟨⟨ga, ka, e1, fun hx => z1 (hZ ga o1.lt hx), o1.same (hr ga ka _ o1 z1)⟩, ⟨gb, kb, e2, fun hx => z2 (hZ gb o2.lt hx), o2.same (hr gb kb _ o2 z2)⟩⟩

/-- Another map of ways. -/
theorem St.remap {E : Env} {Z : Nat → Prop} {w w' : World} {g0 k0 g1 k1 : Nat} {fv : Value} {c d : List Int} {f f' : Int → Int} {F : List (List Int × List Int)} (h : St E Z w g0 k0 g1 k1 fv c d f F) (hg : w.grownBy w' (some E.M)) (hm : MapF w' E.M E.N f' E.S) : St E Z w' g0 k0 g1 k1 fv c d f' F := by
  have hb : ∀ g t cs, Box w g t cs → w'.heap[g]? = w.heap[g]? := fun g t cs hx => hg.block g hx.lt (fun e => h.map.ne_box hx (by injection e))
  have hr : ∀ g k zs, OwnR w g k zs → w'.heap[g]? = w.heap[g]? := fun g k zs ho => by
    obtain ⟨cur, hx, _⟩ := ho.box
    exact hb _ _ _ hx
  have hT : Turn (XS E g0 g1 fv) w w' := (Turn.refl _ w).grown hg fun k e => by injection e with e; exact .inl (.inr (.inr (.inr (.inr (.inl e.symm)))))
  exact ⟨h.envTurn hT, (hb _ _ _ h.pair).trans h.pair, (hb _ _ _ h.found).trans h.found, hm, h.own0.same (hr _ _ _ h.own0), h.own1.same (hr _ _ _ h.own1), h.ne,
    h.out.same (fun g cur hx _ => hb _ _ _ hx) (fun g k zs ho _ => hr _ _ _ ho) (fun _ _ hz => hz), h.z, fun i hi => Nat.lt_of_lt_of_le (h.zlt i hi) hg.size⟩

theorem Post.remap {E : Env} {Z : Nat → Prop} {w w1 w' : World} {g0 k0 g1 k1 : Nat} {fv : Value} {c d : List Int} {f f' : Int → Int} {F : List (List Int × List Int)} (h : Post E Z w g0 k0 g1 k1 fv c d f F w1) (hg : w1.grownBy w' (some E.M)) (hm : MapF w' E.M E.N f' E.S) : Post E Z w g0 k0 g1 k1 fv c d f' F w' := by
  obtain ⟨fv', h1, h2, h3⟩ := h
  exact ⟨fv', h1.remap hg hm, h2.grown hg fun k e => by injection e with e; exact .inl (.inr (.inr (.inr (.inr (.inl e.symm))))), h3⟩

/-- One search behind another. -/
theorem Post.trans {E : Env} {Z : Nat → Prop} {w w1 w' : World} {g0 k0 g1 k1 : Nat} {fv fv1 : Value} {c d : List Int} {f' : Int → Int} {F : List (List Int × List Int)} (hT : Turn (XS E g0 g1 fv) w w1) (hfv : fv1.ownBlock = fv.ownBlock ∨ ∀ g, fv1.ownBlock = some g → w.heap.size ≤ g)
    (h : Post E Z w1 g0 k0 g1 k1 fv1 c d f' F w') : Post E Z w g0 k0 g1 k1 fv c d f' F w' := by
  obtain ⟨fv', h1, h2, h3⟩ := h
  have s1 := hT.size
  refine ⟨fv', h1, hT.trans h2 fun i hi hx => ?_, ?_⟩
  · rcases hx with e | e | e | e | e | e
    · exact .inl e
    · exact .inr (.inl e)
    · exact .inr (.inr (.inl e))
    · exact .inr (.inr (.inr (.inl e)))
    · exact .inr (.inr (.inr (.inr (.inl e))))
    · rcases hfv with e2 | e2
      · exact .inr (.inr (.inr (.inr (.inr (by rw [← e2]; exact e)))))
      · have := e2 i e
        omega
  · rcases h3 with e | e
    · rcases hfv with e2 | e2
      · exact .inl (e.trans e2)
      · exact .inr fun g hg => e2 g (by rw [← e]; exact hg)
    · exact .inr fun g hg => by have := e g hg; omega

/-- The box of the pair behind the append. -/
theorem St.pair40 {E : Env} {Z : Nat → Prop} {w w4 : World} {g0 k0 g1 k1 : Nat} {fv : Value} {c d : List Int} {f : Int → Int} {F : List (List Int × List Int)} (h : St E Z w g0 k0 g1 k1 fv c d f F) {o : Obj} {gn kn : Nat}
    (hat : gn = g0 ∧ kn = k0 ∧ (w.alloc o).grownBy w4 (some g0) ∨ (w.alloc o).heap.size ≤ gn ∧ (w.alloc o).grownBy w4 none) :
    Box w4 E.Bp 77 #[.slice (some ⟨g0, 0, none⟩) c.length k0, .slice (some ⟨g1, 0, none⟩) d.length k1] := by
  have hgrow : (w.alloc o).grownBy w4 (some g0) := by
    rcases hat with ⟨_, _, h1⟩ | ⟨_, h1⟩
    · exact h1
    · exact ⟨h1.os, h1.tape, h1.output, h1.size, fun i hi _ => h1.block i hi (by simp)⟩
  have hbp : g0 ≠ E.Bp := h.own0.ne_box h.pair (by decide)
  exact (h.pair.alloc o).grown hgrow (fun e => hbp (by injection e with e; exact e.symm))

/-- One side more for die 0: the box of the pair holds the longer slice. -/
theorem St.put0 {E : Env} {Z : Nat → Prop} {w w4 : World} {g0 k0 g1 k1 : Nat} {fv : Value} {c d : List Int} {f : Int → Int} {F : List (List Int × List Int)} (h : St E Z w g0 k0 g1 k1 fv c d f F) {o : Obj} {gn kn : Nat} {x : Int}
    (hown : OwnR w4 gn kn (c ++ [x])) (hat : gn = g0 ∧ kn = k0 ∧ (w.alloc o).grownBy w4 (some g0) ∨ (w.alloc o).heap.size ≤ gn ∧ (w.alloc o).grownBy w4 none) :
    St E (fun i => Z i ∨ i = gn) (w4.setCell ⟨E.Bp, 0, none⟩ (.slice (some ⟨gn, 0, none⟩) (c.length + 1) kn)) gn kn g1 k1 fv (c ++ [x]) d f F ∧ Turn (XS E g0 g1 fv) w (w4.setCell ⟨E.Bp, 0, none⟩ (.slice (some ⟨gn, 0, none⟩) (c.length + 1) kn)) ∧
      (gn = g0 ∧ kn = k0 ∨ w.heap.size ≤ gn ∧ OwnR (w4.setCell ⟨E.Bp, 0, none⟩ (.slice (some ⟨gn, 0, none⟩) (c.length + 1) kn)) g0 k0 c) := by
  have sA : (w.alloc o).heap.size = w.heap.size + 1 := by simp
  have hgrow : (w.alloc o).grownBy w4 (some g0) := by
    rcases hat with ⟨_, _, h1⟩ | ⟨_, h1⟩
    · exact h1
    · exact ⟨h1.os, h1.tape, h1.output, h1.size, fun i hi _ => h1.block i hi (by simp)⟩
  have hs4 := hgrow.size
  have hsame4 : ∀ b, b < w.heap.size → b ≠ g0 → w4.heap[b]? = w.heap[b]? := fun b h1 h2 => (hgrow.block b (by omega) (fun e => h2 (by injection e))).trans (Below.heap_alloc w o b h1)
  have hbp : g0 ≠ E.Bp := h.own0.ne_box h.pair (by decide)
  have hpair4 : Box w4 E.Bp 77 #[.slice (some ⟨g0, 0, none⟩) c.length k0, .slice (some ⟨g1, 0, none⟩) d.length k1] := (hsame4 E.Bp h.pair.lt hbp.symm).trans h.pair
  have hgnp : gn ≠ E.Bp := hown.ne_box hpair4 (by decide)
  have hsame : ∀ b, b < w.heap.size → b ≠ g0 → b ≠ E.Bp → (w4.setCell ⟨E.Bp, 0, none⟩ (.slice (some ⟨gn, 0, none⟩) (c.length + 1) kn)).heap[b]? = w.heap[b]? := fun b h1 h2 h3 => (Below.heap_setCell w4 _ _ b h3).trans (hsame4 b h1 h2)
  have hT : Turn (XS E g0 g1 fv) w (w4.setCell ⟨E.Bp, 0, none⟩ (.slice (some ⟨gn, 0, none⟩) (c.length + 1) kn)) :=
    (((Turn.refl _ w).alloc o).grown hgrow fun k e => by injection e with e; exact .inl (.inl e.symm)).setCell (.inl (.inr (.inr (.inl rfl)))) _
  have hnew : gn = g0 ∨ w.heap.size < gn := by
    rcases hat with ⟨h1, _⟩ | ⟨h1, _⟩
    · exact .inl h1
    · exact .inr (by omega)
  have hlen : (c ++ [x]).length = c.length + 1 := by simp
  refine ⟨⟨h.envTurn hT, ?_, ?_, ?_, ?_, ?_, ?_, ?_, ?_, ?_⟩, hT, ?_⟩
  · rw [hlen]
    exact hpair4.put 0 _
  · exact (hsame _ h.found.lt (h.own0.ne_box h.found (by decide)).symm (h.pair.ne h.found (by decide)).symm).trans h.found
  · obtain ⟨cur, hx, _⟩ := h.own0.box
    exact h.map.same (hsame _ h.map.lt (fun e => h.map.ne_box hx e.symm) (fun e => h.map.ne_box h.pair e.symm))
  · exact hown.far hgnp _
  · exact h.own1.same (hsame _ h.own1.lt h.ne.1.symm (h.own1.ne_box h.pair (by decide)))
  · have l0 := h.own0.lt
    have l1 := h.own1.lt
    have lz := h.env.sr.lt
    have hn := h.ne
    rcases hnew with e | e
    · rw [e]; exact hn
    · refine ⟨?_, ?_, ?_⟩ <;> omega
  · refine h.out.same (fun g cur hx hz => hsame g hx.lt (fun e => hz (e ▸ h.z.1)) (fun e => hz (e ▸ h.z.2.2))) (fun g k zs ho hz => hsame g ho.lt (fun e => hz (e ▸ h.z.1)) (ho.ne_box h.pair (by decide))) (fun i hi hz => ?_)
    rcases hz with hz | hz
    · exact hz
    · rcases hnew with e | e
      · rw [hz, e]; exact h.z.1
      · omega
  · exact ⟨.inr rfl, .inl h.z.2.1, .inl h.z.2.2⟩
  · intro i hi
    have := hT.size
    rcases hi with hi | hi
    · have := h.zlt i hi
      omega
    · have := hown.lt
      rw [hi]
      simpa [World.setCell] using this
  · rcases hat with ⟨h1, h2, _⟩ | ⟨h1, h2⟩
    · exact .inl ⟨h1, h2⟩
    · refine .inr ⟨by omega, ?_⟩
      exact (((h.own0.alloc o).grown h2 (by simp)).far hbp _)

/-- Back behind the search: the box of the pair holds the slice that it held. -/
theorem St.back0 {E : Env} {Z : Nat → Prop} {w w5 w6 : World} {g0 k0 g1 k1 : Nat} {fv fv' : Value} {c d : List Int} {f f2 : Int → Int} {F F' : List (List Int × List Int)} (h : St E Z w g0 k0 g1 k1 fv c d f F) {gn kn : Nat} {x : Int}
    (hT : Turn (XS E g0 g1 fv) w w5) (hat : gn = g0 ∧ kn = k0 ∨ w.heap.size ≤ gn ∧ OwnR w5 g0 k0 c) (h6 : St E (fun i => Z i ∨ i = gn) w6 gn kn g1 k1 fv' (c ++ [x]) d f2 F') (hT6 : Turn (XS E gn g1 fv) w5 w6)
    (hfv : fv'.ownBlock = fv.ownBlock ∨ ∀ g, fv'.ownBlock = some g → w5.heap.size ≤ g) :
    Post E Z w g0 k0 g1 k1 fv c d f2 F' (w6.setCell ⟨E.Bp, 0, none⟩ (.slice (some ⟨g0, 0, none⟩) c.length k0)) := by
  have l0 := h.own0.lt
  have l1 := h.own1.lt
  have lz := h.env.sr.lt
  have s5 := hT.size
  have s6 := hT6.size
  have hTw : Turn (XS E g0 g1 fv) w w6 := hT.trans hT6 fun i hi hx => by
    rcases hx with e | e | e | e | e | e
    · rcases hat with ⟨e1, _⟩ | ⟨h1, _⟩
      · exact .inl (e.trans e1)
      · omega
    · exact .inr (.inl e)
    · exact .inr (.inr (.inl e))
    · exact .inr (.inr (.inr (.inl e)))
    · exact .inr (.inr (.inr (.inr (.inl e))))
    · exact .inr (.inr (.inr (.inr (.inr e))))
  have hT7 : Turn (XS E g0 g1 fv) w (w6.setCell ⟨E.Bp, 0, none⟩ (.slice (some ⟨g0, 0, none⟩) c.length k0)) := hTw.setCell (.inl (.inr (.inr (.inl rfl)))) _
  have hown6 : OwnR w6 g0 k0 c := by
    rcases hat with ⟨e1, e2⟩ | ⟨h1, h2⟩
    · subst e1
      subst e2
      exact h6.own0.init
    · refine h2.turn hT6 fun hx => ?_
      have hfb := h.fvBlock
      rcases hx with e | e | e | e | e | e
      · omega
      · exact h.ne.1 e
      · exact h.own0.ne_box h.pair (by decide) e
      · exact h.own0.ne_box h.found (by decide) e
      · obtain ⟨cur, hx, _⟩ := h.own0.box
        exact h.map.ne_box hx e
      · exact (hfb _ e).2.1 h.z.1
  have hsame : ∀ b, b ≠ E.Bp → (w6.setCell ⟨E.Bp, 0, none⟩ (.slice (some ⟨g0, 0, none⟩) c.length k0)).heap[b]? = w6.heap[b]? := fun b h3 => Below.heap_setCell w6 _ _ b h3
  refine ⟨fv', ⟨h.envTurn hT7, ?_, ?_, ?_, ?_, ?_, h.ne, ?_, h.z, ?_⟩, hT7, ?_⟩
  · have := h6.pair.put 0 (.slice (some ⟨g0, 0, none⟩) c.length k0)
    exact this
  · exact (hsame _ (h6.pair.ne h6.found (by decide)).symm).trans h6.found
  · exact h6.map.same (hsame _ (fun e => h6.map.ne_box h6.pair e.symm))
  · exact hown6.same (hsame _ (h.own0.ne_box h.pair (by decide)))
  · exact h6.own1.same (hsame _ (h.own1.ne_box h.pair (by decide)))
  · exact h6.out.same (fun g cur hx hz => hsame g (fun e => hz (.inl (e ▸ h.z.2.2)))) (fun g k zs ho hz => hsame g (ho.ne_box h6.pair (by decide))) (fun i _ hz => .inl hz)
  · intro i hi
    have := h.zlt i hi
    have := hT7.size
    omega
  · rcases hfv with e | e
    · exact .inl e
    · exact .inr fun g hg => by have := e g hg; omega

/-- The box of the pair behind the append. -/
theorem St.pair41 {E : Env} {Z : Nat → Prop} {w w4 : World} {g0 k0 g1 k1 : Nat} {fv : Value} {c d : List Int} {f : Int → Int} {F : List (List Int × List Int)} (h : St E Z w g0 k0 g1 k1 fv c d f F) {o : Obj} {gn kn : Nat}
    (hat : gn = g1 ∧ kn = k1 ∧ (w.alloc o).grownBy w4 (some g1) ∨ (w.alloc o).heap.size ≤ gn ∧ (w.alloc o).grownBy w4 none) :
    Box w4 E.Bp 77 #[.slice (some ⟨g0, 0, none⟩) c.length k0, .slice (some ⟨g1, 0, none⟩) d.length k1] := by
  have hgrow : (w.alloc o).grownBy w4 (some g1) := by
    rcases hat with ⟨_, _, h1⟩ | ⟨_, h1⟩
    · exact h1
    · exact ⟨h1.os, h1.tape, h1.output, h1.size, fun i hi _ => h1.block i hi (by simp)⟩
  have hbp : g1 ≠ E.Bp := h.own1.ne_box h.pair (by decide)
  exact (h.pair.alloc o).grown hgrow (fun e => hbp (by injection e with e; exact e.symm))

/-- One side more for die 1: the box of the pair holds the longer slice. -/
theorem St.put1 {E : Env} {Z : Nat → Prop} {w w4 : World} {g0 k0 g1 k1 : Nat} {fv : Value} {c d : List Int} {f : Int → Int} {F : List (List Int × List Int)} (h : St E Z w g0 k0 g1 k1 fv c d f F) {o : Obj} {gn kn : Nat} {x : Int}
    (hown : OwnR w4 gn kn (d ++ [x])) (hat : gn = g1 ∧ kn = k1 ∧ (w.alloc o).grownBy w4 (some g1) ∨ (w.alloc o).heap.size ≤ gn ∧ (w.alloc o).grownBy w4 none) :
    St E (fun i => Z i ∨ i = gn) (w4.setCell ⟨E.Bp, 1, none⟩ (.slice (some ⟨gn, 0, none⟩) (d.length + 1) kn)) g0 k0 gn kn fv c (d ++ [x]) f F ∧ Turn (XS E g0 g1 fv) w (w4.setCell ⟨E.Bp, 1, none⟩ (.slice (some ⟨gn, 0, none⟩) (d.length + 1) kn)) ∧
      (gn = g1 ∧ kn = k1 ∨ w.heap.size ≤ gn ∧ OwnR (w4.setCell ⟨E.Bp, 1, none⟩ (.slice (some ⟨gn, 0, none⟩) (d.length + 1) kn)) g1 k1 d) := by
  have sA : (w.alloc o).heap.size = w.heap.size + 1 := by simp
  have hgrow : (w.alloc o).grownBy w4 (some g1) := by
    rcases hat with ⟨_, _, h1⟩ | ⟨_, h1⟩
    · exact h1
    · exact ⟨h1.os, h1.tape, h1.output, h1.size, fun i hi _ => h1.block i hi (by simp)⟩
  have hs4 := hgrow.size
  have hsame4 : ∀ b, b < w.heap.size → b ≠ g1 → w4.heap[b]? = w.heap[b]? := fun b h1 h2 => (hgrow.block b (by omega) (fun e => h2 (by injection e))).trans (Below.heap_alloc w o b h1)
  have hbp : g1 ≠ E.Bp := h.own1.ne_box h.pair (by decide)
  have hpair4 : Box w4 E.Bp 77 #[.slice (some ⟨g0, 0, none⟩) c.length k0, .slice (some ⟨g1, 0, none⟩) d.length k1] := (hsame4 E.Bp h.pair.lt hbp.symm).trans h.pair
  have hgnp : gn ≠ E.Bp := hown.ne_box hpair4 (by decide)
  have hsame : ∀ b, b < w.heap.size → b ≠ g1 → b ≠ E.Bp → (w4.setCell ⟨E.Bp, 1, none⟩ (.slice (some ⟨gn, 0, none⟩) (d.length + 1) kn)).heap[b]? = w.heap[b]? := fun b h1 h2 h3 => (Below.heap_setCell w4 _ _ b h3).trans (hsame4 b h1 h2)
  have hT : Turn (XS E g0 g1 fv) w (w4.setCell ⟨E.Bp, 1, none⟩ (.slice (some ⟨gn, 0, none⟩) (d.length + 1) kn)) :=
    (((Turn.refl _ w).alloc o).grown hgrow fun k e => by injection e with e; exact .inl (.inr <| .inl e.symm)).setCell (.inl (.inr (.inr (.inl rfl)))) _
  have hnew : gn = g1 ∨ w.heap.size < gn := by
    rcases hat with ⟨h1, _⟩ | ⟨h1, _⟩
    · exact .inl h1
    · exact .inr (by omega)
  have hlen : (d ++ [x]).length = d.length + 1 := by simp
  refine ⟨⟨h.envTurn hT, ?_, ?_, ?_, ?_, ?_, ?_, ?_, ?_, ?_⟩, hT, ?_⟩
  · rw [hlen]
    exact hpair4.put 1 _
  · exact (hsame _ h.found.lt (h.own1.ne_box h.found (by decide)).symm (h.pair.ne h.found (by decide)).symm).trans h.found
  · obtain ⟨cur, hx, _⟩ := h.own1.box
    exact h.map.same (hsame _ h.map.lt (fun e => h.map.ne_box hx e.symm) (fun e => h.map.ne_box h.pair e.symm))
  · exact h.own0.same (hsame _ h.own0.lt h.ne.1 (h.own0.ne_box h.pair (by decide)))
  · exact hown.far hgnp _
  · have l0 := h.own0.lt
    have l1 := h.own1.lt
    have lz := h.env.sr.lt
    have hn := h.ne
    rcases hnew with e | e
    · rw [e]; exact hn
    · refine ⟨?_, ?_, ?_⟩ <;> omega
  · refine h.out.same (fun g cur hx hz => hsame g hx.lt (fun e => hz (e ▸ h.z.2.1)) (fun e => hz (e ▸ h.z.2.2))) (fun g k zs ho hz => hsame g ho.lt (fun e => hz (e ▸ h.z.2.1)) (ho.ne_box h.pair (by decide))) (fun i hi hz => ?_)
    rcases hz with hz | hz
    · exact hz
    · rcases hnew with e | e
      · rw [hz, e]; exact h.z.2.1
      · omega
  · exact ⟨.inl h.z.1, .inr rfl, .inl h.z.2.2⟩
  · intro i hi
    have := hT.size
    rcases hi with hi | hi
    · have := h.zlt i hi
      omega
    · have := hown.lt
      rw [hi]
      simpa [World.setCell] using this
  · rcases hat with ⟨h1, h2, _⟩ | ⟨h1, h2⟩
    · exact .inl ⟨h1, h2⟩
    · refine .inr ⟨by omega, ?_⟩
      exact (((h.own1.alloc o).grown h2 (by simp)).far hbp _)

/-- Back behind the search: the box of the pair holds the slice that it held. -/
theorem St.back1 {E : Env} {Z : Nat → Prop} {w w5 w6 : World} {g0 k0 g1 k1 : Nat} {fv fv' : Value} {c d : List Int} {f f2 : Int → Int} {F F' : List (List Int × List Int)} (h : St E Z w g0 k0 g1 k1 fv c d f F) {gn kn : Nat} {x : Int}
    (hT : Turn (XS E g0 g1 fv) w w5) (hat : gn = g1 ∧ kn = k1 ∨ w.heap.size ≤ gn ∧ OwnR w5 g1 k1 d) (h6 : St E (fun i => Z i ∨ i = gn) w6 g0 k0 gn kn fv' c (d ++ [x]) f2 F') (hT6 : Turn (XS E g0 gn fv) w5 w6)
    (hfv : fv'.ownBlock = fv.ownBlock ∨ ∀ g, fv'.ownBlock = some g → w5.heap.size ≤ g) :
    Post E Z w g0 k0 g1 k1 fv c d f2 F' (w6.setCell ⟨E.Bp, 1, none⟩ (.slice (some ⟨g1, 0, none⟩) d.length k1)) := by
  have l0 := h.own0.lt
  have l1 := h.own1.lt
  have lz := h.env.sr.lt
  have s5 := hT.size
  have s6 := hT6.size
  have hTw : Turn (XS E g0 g1 fv) w w6 := hT.trans hT6 fun i hi hx => by
    rcases hx with e | e | e | e | e | e
    · exact .inl e
    · rcases hat with ⟨e1, _⟩ | ⟨h1, _⟩
      · exact .inr (.inl (e.trans e1))
      · omega
    · exact .inr (.inr (.inl e))
    · exact .inr (.inr (.inr (.inl e)))
    · exact .inr (.inr (.inr (.inr (.inl e))))
    · exact .inr (.inr (.inr (.inr (.inr e))))
  have hT7 : Turn (XS E g0 g1 fv) w (w6.setCell ⟨E.Bp, 1, none⟩ (.slice (some ⟨g1, 0, none⟩) d.length k1)) := hTw.setCell (.inl (.inr (.inr (.inl rfl)))) _
  have hown6 : OwnR w6 g1 k1 d := by
    rcases hat with ⟨e1, e2⟩ | ⟨h1, h2⟩
    · subst e1
      subst e2
      exact h6.own1.init
    · refine h2.turn hT6 fun hx => ?_
      have hfb := h.fvBlock
      rcases hx with e | e | e | e | e | e
      · exact h.ne.1 e.symm
      · omega
      · exact h.own1.ne_box h.pair (by decide) e
      · exact h.own1.ne_box h.found (by decide) e
      · obtain ⟨cur, hx, _⟩ := h.own1.box
        exact h.map.ne_box hx e
      · exact (hfb _ e).2.1 h.z.2.1
  have hsame : ∀ b, b ≠ E.Bp → (w6.setCell ⟨E.Bp, 1, none⟩ (.slice (some ⟨g1, 0, none⟩) d.length k1)).heap[b]? = w6.heap[b]? := fun b h3 => Below.heap_setCell w6 _ _ b h3
  refine ⟨fv', ⟨h.envTurn hT7, ?_, ?_, ?_, ?_, ?_, h.ne, ?_, h.z, ?_⟩, hT7, ?_⟩
  · have := h6.pair.put 1 (.slice (some ⟨g1, 0, none⟩) d.length k1)
    exact this
  · exact (hsame _ (h6.pair.ne h6.found (by decide)).symm).trans h6.found
  · exact h6.map.same (hsame _ (fun e => h6.map.ne_box h6.pair e.symm))
  · exact h6.own0.same (hsame _ (h.own0.ne_box h.pair (by decide)))
  · exact hown6.same (hsame _ (h.own1.ne_box h.pair (by decide)))
  · exact h6.out.same (fun g cur hx hz => hsame g (fun e => hz (.inl (e ▸ h.z.2.2)))) (fun g k zs ho hz => hsame g (ho.ne_box h6.pair (by decide))) (fun i _ hz => .inl hz)
  · intro i hi
    have := h.zlt i hi
    have := hT7.size
    omega
  · rcases hfv with e | e
    · exact .inl e
    · exact .inr fun g hg => by have := e g hg; omega

/-- What was taken is given back. -/
theorem St.give0 {E : Env} {Z : Nat → Prop} {w : World} {g0 k0 g1 k1 : Nat} {fv : Value} {c d : List Int} {f : Int → Int} {F : List (List Int × List Int)} {kk : Nat} {y : Int} (h : St E Z w g0 k0 g1 k1 fv c d (tk f y (c.take kk)) F) (hkk : kk ≤ c.length) (h8 : c.length ≤ 8) (he : ∀ x ∈ c, 0 ≤ x ∧ x ≤ 60)
    (hy : -1000 ≤ y ∧ y ≤ 1000) (hf : ∀ v, 0 ≤ f v ∧ f v ≤ 1000000) (hok : okT f y (c.take kk) = true) (hkey : ∀ v, f v ≠ 0 → E.S v = true) :
    Calls Try.prog 100 #[.map (some E.M), .int .i64 y, .slice (some ⟨g0, 0, none⟩) kk k0] w fun e w' => e = .returned (.tuple #[]) ∧ MapF w' E.M E.N f E.S ∧ w.grownBy w' (some E.M) := by
  have hlen : (c.take kk).length = kk := by simp; omega
  have hn0 := okT_nonneg y (c.take kk) f (fun v => (hf v).1) hok
  obtain ⟨cur, hx, _⟩ := h.own0.box
  have hc := giveBack_any E.M E.N y (some ⟨g0, 0, none⟩) (c.take kk) k0 w.heap.size (tk f y (c.take kk)) E.S w h.map h.env.nn (h.own0.pre (n := kk)).reads (by omega) (by omega) (fun z hz => by have := he z (List.mem_of_mem_take hz); omega)
    (fun v => ⟨hn0 v, by rw [tk_eq]; have := cnt_nonneg y (c.take kk) v; have := hf v; omega⟩) (fun z hz => hkey _ (okT_mem y (c.take kk) f hok z hz fun v => (hf v).1)) (fun b o e => by injection e with e; injection e with e _ _; rw [← e]; exact h.map.ne_box hx) (Nat.le_refl _)
  rw [give_tk, hlen] at hc
  exact hc

/-- What was taken is given back. -/
theorem St.give1 {E : Env} {Z : Nat → Prop} {w : World} {g0 k0 g1 k1 : Nat} {fv : Value} {c d : List Int} {f : Int → Int} {F : List (List Int × List Int)} {kk : Nat} {y : Int} (h : St E Z w g0 k0 g1 k1 fv c d (tk f y (d.take kk)) F) (hkk : kk ≤ d.length) (h8 : d.length ≤ 8) (he : ∀ x ∈ d, 0 ≤ x ∧ x ≤ 60)
    (hy : -1000 ≤ y ∧ y ≤ 1000) (hf : ∀ v, 0 ≤ f v ∧ f v ≤ 1000000) (hok : okT f y (d.take kk) = true) (hkey : ∀ v, f v ≠ 0 → E.S v = true) :
    Calls Try.prog 100 #[.map (some E.M), .int .i64 y, .slice (some ⟨g1, 0, none⟩) kk k1] w fun e w' => e = .returned (.tuple #[]) ∧ MapF w' E.M E.N f E.S ∧ w.grownBy w' (some E.M) := by
  have hlen : (d.take kk).length = kk := by simp; omega
  have hn0 := okT_nonneg y (d.take kk) f (fun v => (hf v).1) hok
  obtain ⟨cur, hx, _⟩ := h.own1.box
  have hc := giveBack_any E.M E.N y (some ⟨g1, 0, none⟩) (d.take kk) k1 w.heap.size (tk f y (d.take kk)) E.S w h.map h.env.nn (h.own1.pre (n := kk)).reads (by omega) (by omega) (fun z hz => by have := he z (List.mem_of_mem_take hz); omega)
    (fun v => ⟨hn0 v, by rw [tk_eq]; have := cnt_nonneg y (d.take kk) v; have := hf v; omega⟩) (fun z hz => hkey _ (okT_mem y (d.take kk) f hok z hz fun v => (hf v).1)) (fun b o e => by injection e with e; injection e with e _ _; rw [← e]; exact h.map.ne_box hx) (Nat.le_refl _)
  rw [give_tk, hlen] at hc
  exact hc

end Go.Proofs.Ytkkholagmjcgiaa
