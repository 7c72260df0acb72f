/- The closure grow inside pairs of package dice: the state of memory while it searches, and what the last store means for it. -/
import Derived.Test.YtkkholagmjcgiaaSorted
import Derived.Test.YtkkholagmjcgiaaGrow
namespace Go.Proofs.Ytkkholagmjcgiaa
open Go.RowKit Go.Maps

/-- The blocks and the data that stay while the search runs. -/
structure Env where
  Bp : Nat
  Bs : Nat
  Bf : Nat
  Bl : Nat
  Bq : Nat
  Bg : Nat
  M : Nat
  N : Nat
  n : Nat
  m : Nat
  gz : Nat
  cz : Nat
  sums : List Int
  S : Int → Bool

def Env.caps (E : Env) : Array Value := #[.pointer (some ⟨E.Bp, 0, none⟩), .pointer (some ⟨E.Bs, 0, none⟩), .pointer (some ⟨E.Bf, 0, none⟩), .pointer (some ⟨E.Bl, 0, none⟩), .pointer (some ⟨E.Bq, 0, none⟩), .pointer (some ⟨E.Bg, 0, none⟩)]

structure EnvOk (E : Env) (w : World) : Prop where
  sizes : Box w E.Bs 100 #[.int .i64 E.n, .int .i64 E.m]
  left : Box w E.Bl 80 #[.map (some E.M)]
  sm : Box w E.Bq 36 #[.slice (some ⟨E.gz, 0, none⟩) E.sums.length E.cz]
  gr : Box w E.Bg 114 #[.func (.func 98) #[] E.caps]
  sr : OwnR w E.gz E.cz E.sums
  sl : E.sums.length ≤ 100000
  keys : ∀ y ∈ E.sums, E.S y = true
  nn : E.N < 1000000000

/-- A clone that lies in no block of Z. -/
def Cl (Z : Nat → Prop) (w : World) (v : Value) (zs : List Int) : Prop := ∃ g k, v = .slice (some ⟨g, 0, none⟩) zs.length k ∧ ¬ Z g ∧ OwnR w g k zs
/-- The list found, of clones. -/
def OutOk (Z : Nat → Prop) (w : World) (fv : Value) (F : List (List Int × List Int)) : Prop :=
  ∃ vs : List (Value × Value), vs.length = F.length ∧ w.ownsRow 0 77 2 fv F.length (vs.flatMap fun p => [p.1, p.2]) ∧ (∀ g, fv.ownBlock = some g → ¬ Z g) ∧
    ∀ (i : Nat) (p : Value × Value) (q : List Int × List Int), vs[i]? = some p → F[i]? = some q → Cl Z w p.1 q.1 ∧ Cl Z w p.2 q.2

structure St (E : Env) (Z : Nat → Prop) (w : World) (g0 k0 g1 k1 : Nat) (fv : Value) (c d : List Int) (f : Int → Int) (F : List (List Int × List Int)) : Prop where
  env : EnvOk E w
  pair : Box w E.Bp 77 #[.slice (some ⟨g0, 0, none⟩) c.length k0, .slice (some ⟨g1, 0, none⟩) d.length k1]
  found : Box w E.Bf 50 #[fv]
  map : MapF w E.M E.N f E.S
  own0 : OwnR w g0 k0 c
  own1 : OwnR w g1 k1 d
  ne : g0 ≠ g1 ∧ g0 ≠ E.gz ∧ g1 ≠ E.gz
  out : OutOk Z w fv F
  z : Z g0 ∧ Z g1 ∧ Z E.Bp
  zlt : ∀ i, Z i → i < w.heap.size

/-- What the search may turn. -/
def XS (E : Env) (g0 g1 : Nat) (fv : Value) : Nat → Prop := fun i => i = g0 ∨ i = g1 ∨ i = E.Bp ∨ i = E.Bf ∨ i = E.M ∨ fv.ownBlock = some i

theorem MapF.ne_box {w : World} {b n : Nat} {f : Int → Int} {S : Int → Bool} {g : Nat} {t : TypeId} {cs : Array Value} (h : MapF w b n f S) (h' : Box w g t cs) : g ≠ b := by
  rintro rfl
  obtain ⟨D, ⟨es, clock, hb, _⟩, _⟩ := h
  unfold Box at h'
  rw [hb] at h'
  injection h' with h'
  cases h'

theorem Cl.turn {Z X : Nat → Prop} {w w' : World} {v : Value} {zs : List Int} (h : Cl Z w v zs) (hT : Turn X w w') (hX : ∀ g k, OwnR w g k zs → ¬ Z g → ¬ X g) : Cl Z w' v zs := by
  obtain ⟨g, k, e, hz, ho⟩ := h
  exact ⟨g, k, e, hz, ho.turn hT (hX g k ho hz)⟩
theorem Cl.imp {Z Z' : Nat → Prop} {w : World} {v : Value} {zs : List Int} (h : Cl Z w v zs) (hZ : ∀ i, i < w.heap.size → Z' i → Z i) : Cl Z' w v zs := by
  obtain ⟨g, k, e, hz, ho⟩ := h
  exact ⟨g, k, e, fun h' => hz (hZ g ho.lt h'), ho⟩

theorem outBlock_lt {w : World} {fv : Value} {e : TypeId} {sz n : Nat} {xs : List Value} (h : w.ownsRow 0 e sz fv n xs) : ∀ g, fv.ownBlock = some g → g < w.heap.size ∧ ∃ cur, Box w g e cur := by
  intro g hg
  rcases h.2 with ⟨rfl, _⟩ | ⟨g', cap, cur, rfl, _, hh, _⟩
  · cases hg
  · have : g' = g := by simpa [Value.ownBlock] using hg
    subst this
    exact ⟨Box.lt hh, cur, hh⟩

theorem OutOk.turn {Z X : Nat → Prop} {w w' : World} {fv : Value} {F : List (List Int × List Int)} (h : OutOk Z w fv F) (hT : Turn X w w') (hX : ∀ g k zs, OwnR w g k zs → ¬ Z g → ¬ X g) (hF : ∀ g, fv.ownBlock = some g → ¬ X g) : OutOk Z w' fv F := by
  obtain ⟨vs, hl, ho, hz, hc⟩ := h
  refine ⟨vs, hl, ?_, hz, fun i p q h1 h2 => ⟨(hc i p q h1 h2).1.turn hT fun g k => hX g k _, (hc i p q h1 h2).2.turn hT fun g k => hX g k _⟩⟩
  rcases ho.2 with ⟨e, hn⟩ | ⟨g, cap, cur, e, hb, hh, h1, h2, h3, h4⟩
  · exact ⟨ho.1, .inl ⟨e, hn⟩⟩
  · exact ⟨ho.1, .inr ⟨g, cap, cur, e, hb, Box.turn hh hT (hF g (by rw [e]; rfl)), h1, h2, h3, h4⟩⟩

theorem MapF.same {w w' : World} {b n : Nat} {f : Int → Int} {S : Int → Bool} (h : MapF w b n f S) (e : w'.heap[b]? = w.heap[b]?) : MapF w' b n f S := by
  obtain ⟨D, ⟨es, clock, hb, ft, hs, hD⟩, h2⟩ := h
  exact ⟨D, ⟨es, clock, e.trans hb, ft, hs, hD⟩, h2⟩
theorem OwnR.same {w w' : World} {g k : Nat} {zs : List Int} (h : OwnR w g k zs) (e : w'.heap[g]? = w.heap[g]?) : OwnR w' g k zs := by
  obtain ⟨cur, hb, h1, h2, h3, h4⟩ := h.box
  exact OwnR.of_box (e.trans hb) h1 h2 h3 h4
theorem own_same {w w' : World} {base n sz : Nat} {e : TypeId} {v : Value} {xs : List Value} (h : w.ownsRow base e sz v n xs) (hs : ∀ g, v.ownBlock = some g → w'.heap[g]? = w.heap[g]?) : w'.ownsRow base e sz v n xs := by
  rcases h.2 with ⟨e1, hn⟩ | ⟨g, cap, cur, e1, hb, hh, h1, h2, h3, h4⟩
  · exact ⟨h.1, .inl ⟨e1, hn⟩⟩
  · exact ⟨h.1, .inr ⟨g, cap, cur, e1, hb, (hs g (by rw [e1]; rfl)).trans hh, h1, h2, h3, h4⟩⟩
theorem Cl.same {Z : Nat → Prop} {w w' : World} {v : Value} {zs : List Int} (h : Cl Z w v zs) (hs : ∀ g k, OwnR w g k zs → w'.heap[g]? = w.heap[g]?) : Cl Z w' v zs := by
  obtain ⟨g, k, e, hz, ho⟩ := h
  exact ⟨g, k, e, hz, ho.same (hs g k ho)⟩

/-- The blocks of the environment are none that the search turns. -/
theorem St.envTurn {E : Env} {Z : Nat → Prop} {w w' : World} {g0 k0 g1 k1 : Nat} {fv : Value} {c d : List Int} {f : Int → Int} {F : List (List Int × List Int)} (h : St E Z w g0 k0 g1 k1 fv c d f F) (hT : Turn (XS E g0 g1 fv) w w') : EnvOk E w' := by
  obtain ⟨vs, _, ho, _⟩ := h.out
  have hx : ∀ (g : Nat) (t : TypeId) (cs : Array Value), Box w g t cs → t ≠ 3 → t ≠ 77 → t ≠ 50 → ¬ XS E g0 g1 fv g := fun g t cs hb h1 h2 h3 hX => by
    rcases hX with e | e | e | e | e | e
    · exact h.own0.ne_box hb (Ne.symm h1) e.symm
    · exact h.own1.ne_box hb (Ne.symm h1) e.symm
    · exact hb.ne h.pair h2 e
    · exact hb.ne h.found h3 e
    · exact h.map.ne_box hb e
    · obtain ⟨_, cur, hb2⟩ := outBlock_lt ho _ e
      exact hb.ne hb2 h2 rfl
  have hz : ¬ XS E g0 g1 fv E.gz := fun hX => by
    obtain ⟨cur, hb, _⟩ := h.env.sr.box
    rcases hX with e | e | e | e | e | e
    · exact h.ne.2.1 e.symm
    · exact h.ne.2.2 e.symm
    · exact hb.ne h.pair (by decide) e
    · exact hb.ne h.found (by decide) e
    · exact h.map.ne_box hb e
    · obtain ⟨_, cur, hb2⟩ := outBlock_lt ho _ e
      exact hb.ne hb2 (by decide) rfl
  exact ⟨h.env.sizes.turn hT (hx _ _ _ h.env.sizes (by decide) (by decide) (by decide)), h.env.left.turn hT (hx _ _ _ h.env.left (by decide) (by decide) (by decide)), h.env.sm.turn hT (hx _ _ _ h.env.sm (by decide) (by decide) (by decide)),
    h.env.gr.turn hT (hx _ _ _ h.env.gr (by decide) (by decide) (by decide)), h.env.sr.turn hT hz, h.env.sl, h.env.keys, h.env.nn⟩

/-- What the search leaves. -/
def Post (E : Env) (Z : Nat → Prop) (w : World) (g0 k0 g1 k1 : Nat) (fv : Value) (c d : List Int) (f : Int → Int) (F : List (List Int × List Int)) (w' : World) : Prop :=
  ∃ fv', St E Z w' g0 k0 g1 k1 fv' c d f F ∧ Turn (XS E g0 g1 fv) w w' ∧ (fv'.ownBlock = fv.ownBlock ∨ ∀ g, fv'.ownBlock = some g → w.heap.size ≤ g)

theorem done_post {E : Env} {Z : Nat → Prop} {w w1 w2 w3 : World} {g0 k0 g1 k1 : Nat} {fv : Value} {c d : List Int} {f : Int → Int} {F : List (List Int × List Int)} (h : St E Z w g0 k0 g1 k1 fv c d f F)
    {vs : List (Value × Value)} (hvl : vs.length = F.length) (hzf : ∀ g, fv.ownBlock = some g → ¬ Z g) (hof : w.ownsRow 0 77 2 fv F.length (vs.flatMap fun p => [p.1, p.2]))
    (hcl : ∀ (i : Nat) (p : Value × Value) (q : List Int × List Int), vs[i]? = some p → F[i]? = some q → Cl Z w p.1 q.1 ∧ Cl Z w p.2 q.2)
    {o : Obj} {ga ka gb kb gf cf : Nat} (hga : w.heap.size ≤ ga) (hoa : OwnR w1 ga ka c) (hba : Below w.heap.size w w1) (hgb : w1.heap.size ≤ gb) (hob : OwnR w2 gb kb d) (hbb : Below w1.heap.size w1 w2)
    (hown3 : w3.ownsRow 0 77 2 (.slice (some ⟨gf, 0, none⟩) (F.length + 1) cf) (F.length + 1) ((vs.flatMap fun p => [p.1, p.2]) ++ [.slice (some ⟨ga, 0, none⟩) c.length ka, .slice (some ⟨gb, 0, none⟩) d.length kb]))
    (hg3 : (w2.alloc o).grownBy w3 fv.ownBlock) (hat3 : fv.ownBlock = some gf ∨ gf = w2.heap.size + 1) :
    Post E Z w g0 k0 g1 k1 fv c d f (F ++ [(c, d)]) (w3.setCell ⟨E.Bf, 0, none⟩ (.slice (some ⟨gf, 0, none⟩) (F.length + 1) cf)) := by
  have s1 := hba.size
  have s2 := hbb.size
  have s3 := hg3.size
  have sA : (w2.alloc o).heap.size = w2.heap.size + 1 := by simp
  rw [sA] at s3
  have fvlt : ∀ g, fv.ownBlock = some g → g < w.heap.size ∧ ∃ cur, Box w g 77 cur := outBlock_lt hof
  have hffb : fv.ownBlock ≠ some E.Bf := fun e => by
    obtain ⟨_, cur, hx⟩ := fvlt _ e
    exact hx.ne h.found (by decide) rfl
  have hfpb : fv.ownBlock ≠ some E.Bp := fun e => hzf _ e h.z.2.2
  have hpf : E.Bp ≠ E.Bf := h.pair.ne h.found (by decide)
  have hsame : ∀ b, b < w.heap.size → fv.ownBlock ≠ some b → b ≠ E.Bf → (w3.setCell ⟨E.Bf, 0, none⟩ (.slice (some ⟨gf, 0, none⟩) (F.length + 1) cf)).heap[b]? = w.heap[b]? := fun b h1 h2 h3 =>
    (Below.heap_setCell w3 _ _ b h3).trans (done_chain hba hbb hg3 b h1 h2)
  have hT : Turn (XS E g0 g1 fv) w (w3.setCell ⟨E.Bf, 0, none⟩ (.slice (some ⟨gf, 0, none⟩) (F.length + 1) cf)) :=
    (((((Turn.refl _ w).below hba (Nat.le_refl _)).below hbb s1).alloc o).grown hg3 (fun k hk => .inl (.inr (.inr (.inr (.inr (.inr hk))))))).setCell (.inl (.inr (.inr (.inr (.inl rfl))))) _
  have rowfv : ∀ g k zs, OwnR w g k zs → fv.ownBlock ≠ some g := fun g k zs hr e => by
    obtain ⟨_, cur, hx⟩ := fvlt _ e
    exact hr.ne_box hx (by decide) rfl
  have rowbf : ∀ g k zs, OwnR w g k zs → g ≠ E.Bf := fun g k zs hr => hr.ne_box h.found (by decide)
  have new_own : ∀ g k zs, OwnR w2 g k zs → w.heap.size ≤ g → OwnR (w3.setCell ⟨E.Bf, 0, none⟩ (.slice (some ⟨gf, 0, none⟩) (F.length + 1) cf)) g k zs := fun g k zs hr hle => by
    have h1 : OwnR w3 g k zs := (hr.alloc o).grown hg3 (fun e => by have := (fvlt g e.symm).1; omega)
    refine h1.far ?_ _
    have := h.found.lt
    show g ≠ E.Bf
    omega
  refine ⟨.slice (some ⟨gf, 0, none⟩) (F.length + 1) cf, ⟨h.envTurn hT, ?_, ?_, ?_, ?_, ?_, h.ne, ?_, h.z, ?_⟩, hT, ?_⟩
  · exact (hsame E.Bp h.pair.lt hfpb hpf).trans h.pair
  · have hb3 : Box w3 E.Bf 50 #[fv] := (done_chain hba hbb hg3 E.Bf h.found.lt hffb).trans h.found
    exact hb3.put 0 _
  · refine h.map.same (hsame E.M h.map.lt (fun e => ?_) (fun e => h.map.ne_box h.found e.symm))
    obtain ⟨_, cur, hx⟩ := fvlt _ e
    exact h.map.ne_box hx rfl
  · exact h.own0.same (hsame g0 h.own0.lt (rowfv _ _ _ h.own0) (rowbf _ _ _ h.own0))
  · exact h.own1.same (hsame g1 h.own1.lt (rowfv _ _ _ h.own1) (rowbf _ _ _ h.own1))
  · refine ⟨vs ++ [(.slice (some ⟨ga, 0, none⟩) c.length ka, .slice (some ⟨gb, 0, none⟩) d.length kb)], by simp [hvl], ?_, ?_, ?_⟩
    · have e : ((vs ++ [(Value.slice (some ⟨ga, 0, none⟩) c.length ka, Value.slice (some ⟨gb, 0, none⟩) d.length kb)]).flatMap fun p => [p.1, p.2]) = (vs.flatMap fun p => [p.1, p.2]) ++ [.slice (some ⟨ga, 0, none⟩) c.length ka, .slice (some ⟨gb, 0, none⟩) d.length kb] := by simp
      rw [e, show (F ++ [(c, d)]).length = F.length + 1 by simp]
      refine own_same hown3 fun g hg => ?_
      obtain ⟨_, cur, hx⟩ := outBlock_lt hown3 g hg
      have hb3 : Box w3 E.Bf 50 #[fv] := (done_chain hba hbb hg3 E.Bf h.found.lt hffb).trans h.found
      exact Below.heap_setCell w3 _ _ g (hx.ne hb3 (by decide))
    · intro g hg hz
      have e : gf = g := by simpa [Value.ownBlock] using hg
      subst e
      rcases hat3 with h1 | h1
      · exact hzf _ h1 hz
      · have := h.zlt _ hz
        omega
    · intro i p q hp hq
      rcases Nat.lt_trichotomy i F.length with hi | hi | hi
      · rw [List.getElem?_append_left (by omega)] at hp
        rw [List.getElem?_append_left hi] at hq
        obtain ⟨c1, c2⟩ := hcl i p q hp hq
        exact ⟨c1.same fun g k hr => hsame g hr.lt (rowfv _ _ _ hr) (rowbf _ _ _ hr), c2.same fun g k hr => hsame g hr.lt (rowfv _ _ _ hr) (rowbf _ _ _ hr)⟩
      · subst hi
        rw [List.getElem?_append_right (by omega), hvl] at hp
        rw [List.getElem?_append_right (Nat.le_refl _)] at hq
        simp only [Nat.sub_self, List.getElem?_cons_zero, Option.some.injEq] at hp hq
        subst hp
        subst hq
        have l1 := hoa.lt
        exact ⟨⟨ga, ka, rfl, fun hz => by have := h.zlt _ hz; omega, new_own ga ka c (hoa.below hbb l1) hga⟩, ⟨gb, kb, rfl, fun hz => by have := h.zlt _ hz; omega, new_own gb kb d hob (by omega)⟩⟩
      · have := (List.getElem?_eq_some_iff.1 hq).1
        simp at this
        omega
  · intro i hi
    have := h.zlt i hi
    have := hT.size
    omega
  · rcases hat3 with h1 | h1
    · exact .inl (by rw [h1]; rfl)
    · refine .inr fun g hg => ?_
      have e : gf = g := by simpa [Value.ownBlock] using hg
      omega

end Go.Proofs.Ytkkholagmjcgiaa
