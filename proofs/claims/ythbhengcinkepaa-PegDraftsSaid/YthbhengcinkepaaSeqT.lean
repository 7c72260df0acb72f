/- A range over a function whose iterator hands out values a round, writes in memory of its own that grows, and whose body may leave the loop: what the iterator promises, and the law for the statement, outermost or within a round of another. · The jumps that can be made in a position, as an iterator. -/
import Derived.Test.YthbhengcinkepaaSeqB
import Derived.Test.YthbhengcinkepaaPg7
import Derived.Test.YthbhengcinkepaaGames
namespace Go.Proofs.Ythbhengcinkepaa
open Go.RowKit Go.Shelf

/-- What an iterator promises: D: the blocks that it reads; O: the blocks of its own, which may grow. -/
def SeqT {α : Type} (E : α → Array Value → World → Prop) (P : Program) (gf : Nat) (lb : Array Value) (D : Nat → Prop) (all : List α) (W1 : World) : Prop :=
  ∀ (l : Nat) (J : (Nat → Prop) → List α → World → Prop) (S : (Nat → Prop) → World → Prop),
    J (fun _ => False) [] W1 →
    (∀ O O' pre W, J O pre W → (∀ b, O' b → O b ∨ W.heap.size ≤ b) → J O' pre W) →
    (∀ O pre W W', J O pre W → Turn O W W' → J O pre W') →
    (∀ O W W', S O W → Turn O W W' → S O W') →
    (∀ O pre x v W, J O pre W → E x v W → pre ++ [x] <+: all → (∀ b, O b → b < W.heap.size) → YieldAt Fence.wide 0 P l v W fun e W' =>
      (e = .returned (.bool true) ∧ J O (pre ++ [x]) W' ∨ e = .returned (.bool false) ∧ S O W') ∧ Turn (fun b => ¬ (D b ∨ O b)) W W') →
    Calls P gf (#[.func (.yield l) #[] #[]] ++ lb) W1 fun e W' => e = .returned (.tuple #[]) ∧ ∃ O, J O all W' ∨ S O W'

/-- A round that goes on, or leaves. -/
def leavesT (R : World → Prop) (Rx : Code → World → Prop) : Exit → Act → World → Prop
  | .normal, _, W => R W
  | .ret, _, W => Rx .ret W
  | .exit id, _, W => Rx (.exit id) W
  | .goto t, _, W => Rx (.goto t) W
  | .panic _, _, _ => False
  | .outgrown, _, _ => False

theorem rangeT_core {α : Type} {E : α → Array Value → World → Prop} {P : Program} {F : Fence} (hFd : F = Fence.wide ∨ ∃ l₀, F = Fence.wide.inRound l₀) {n m : Nat} {g : Operand} {ps : Array Tmp} {assign body : Code} {Q : Exit → Act → World → Prop} {a : Act} {w : World} {gf : Nat} {lb : Array Value}
    (hps : ∀ x v W, E x v W → v.size = ps.size) (hg : a.eval g = .func (.func gf) #[] lb) (eg : ∀ args w, (callFunc gf args).run P w = .ok (.enter gf args) w)
    {D : Nat → Prop} {all : List α} (l : Nat) (mark : List Deferred) (dfr : Nat) (W1 : FuncId → World)
    (henter : ∀ fn, (Instr.enterLoop fn a.tmps ps assign body F.round).run P w = .ok (l, mark) (W1 fn))
    (hrec : ∀ fn, (W1 fn).heap[l]? = some (.loop { state := .ready, pending := none, fn, tmps := a.tmps, params := ps, assign, body, defers := dfr }))
    (hseq : ∀ fn, SeqT E P gf lb D all (W1 fn)) (hDl : ¬ D l)
    (I : (Nat → Prop) → List α → World → Prop) (Ix : Code → (Nat → Prop) → World → Prop)
    (hI0 : ∀ fn, I (fun _ => False) [] (W1 fn))
    (hIe : ∀ O O' pre W, I O pre W → (∀ b, O' b → O b ∨ W.heap.size ≤ b) → I O' pre W)
    (hI : ∀ O pre W W', I O pre W → Turn (fun b => b = l ∨ O b) W W' → I O pre W')
    (hIx : ∀ c O W W', Ix c O W → Turn (fun b => b = l ∨ O b) W W' → Ix c O W')
    (hround : ∀ O pre x v W, I O pre W → E x v W → pre ++ [x] <+: all → (∀ b, O b → l < b ∧ b < W.heap.size) → (∃ r, W.heap[l]? = some (.loop r)) →
      assign.wpIn (Fence.wide.inRound l) m P (Exit.then (fun a₁ W₁ => Turn (fun b => ¬ (b = l ∨ D b ∨ O b)) W W₁ ∧ ∀ W₂, Turn (fun b => b = l) W₁ W₂ → (∃ r, W₂.heap[l]? = some (.loop r)) →
        body.wpIn (Fence.wide.inRound l) m P (leavesT (fun W₃ => I O (pre ++ [x]) W₃ ∧ Turn (fun b => ¬ (b = l ∨ D b ∨ O b)) W₂ W₃) (fun c W₃ => Ix c O W₃ ∧ Turn (fun b => ¬ (b = l ∨ D b ∨ O b)) W₂ W₃)) a₁ W₂) (fun _ _ _ => False))
        { tmps := (ps.zip v).foldl (fun t (x : Tmp × Value) => t.setIfInBounds x.1 x.2) a.tmps, defers := [] } W)
    (hdone : ∀ O W, I O all W → Q .normal { a with defers := mark ++ a.defers } W)
    (hstop : ∀ c O W, Ix c O W → c.wpIn F n P Q { a with defers := mark ++ a.defers } W) :
    (Code.rangeFunc g ps assign body).wpIn F n P Q a w := by
  have hfnF : ∀ f, F.fn f := by rcases hFd with rfl | ⟨l₀, rfl⟩ <;> exact fun _ => trivial
  have hdF : F.depth.isSome = true → 1 ≤ n := by rcases hFd with rfl | ⟨l₀, rfl⟩ <;> exact fun h => by cases h
  have hcallF : ∀ {k : Nat} {f : FuncId} {args : Array Value} {W : World} {R : Ending → World → Prop}, Calls P f args W R → CallsIn F k P f args W R := by
    rcases hFd with rfl | ⟨l₀, rfl⟩
    · exact fun h => callsIn_wide.2 h
    · exact fun h => CallsIn.inRound l₀ (callsIn_wide.2 h)
  refine wpIn_rangeFunc ?_
  intro fn _
  obtain ⟨rec, hrc⟩ : ∃ rec : LoopState → Option Code → Loop, rec = fun st pe => { state := st, pending := pe, fn, tmps := a.tmps, params := ps, assign, body, defers := dfr } := ⟨_, rfl⟩
  have hL1 : (W1 fn).heap[l]? = some (.loop (rec .ready none)) := by rw [hrec fn, hrc]
  refine ⟨l, mark, W1 fn, { target := .fn (.func gf) lb, args := #[.func (.yield l) #[] #[]] }, W1 fn, gf, #[.func (.yield l) #[] #[]] ++ lb, W1 fn, henter fn, ?_, fun f' _ => hfnF f', ?_, hdF, ?_⟩
  · simp only [resolve, hg]
    simp [go_sem]
  · simp [invoke, go_sem, eg]
  · refine hcallF ((hseq fn l (fun O pre W => I O pre W ∧ (∀ b, O b → l < b) ∧ W.heap[l]? = some (.loop (rec .ready none))) (fun O W => ∃ c, Ix c O W ∧ (∀ b, O b → l < b) ∧ W.heap[l]? = some (.loop (rec .done (some c)))) ?_ ?_ ?_ ?_ ?_).mono ?_)
    · exact ⟨hI0 fn, fun _ h => h.elim, hL1⟩
    · rintro O O' pre W ⟨hi, ho, hl⟩ hx
      have hlt : l < W.heap.size := (Array.getElem?_eq_some_iff.1 hl).1
      refine ⟨hIe O O' pre W hi hx, fun b hb => ?_, hl⟩
      rcases hx b hb with h | h
      · exact ho b h
      · omega
    · rintro O pre W W' ⟨hi, ho, hl⟩ hT
      exact ⟨hI O pre W W' hi (hT.imp fun i _ h => .inr h), ho, (hT.2 l (Array.getElem?_eq_some_iff.1 hl).1 (fun h => Nat.lt_irrefl _ (ho l h))).trans hl⟩
    · rintro O W W' ⟨c, hi, ho, hl⟩ hT
      exact ⟨c, hIx c O W W' hi (hT.imp fun i _ h => .inr h), ho, (hT.2 l (Array.getElem?_eq_some_iff.1 hl).1 (fun h => Nat.lt_irrefl _ (ho l h))).trans hl⟩
    · rintro O pre x v W ⟨hi, ho, hl⟩ hnow hpre hbd
      have hlt : l < W.heap.size := (Array.getElem?_eq_some_iff.1 hl).1
      have hy := run_yield (P := P) (args := v) hl (by rw [hrc]; exact hps x v W hnow)
      rw [hrc] at hy
      refine ⟨fn, _, assign, body, hy, RoundIn.anyDepthE (m := m) (roundIn_of_wpIn (by exact trivial) ?_)⟩
      have hr := hround O pre x v W hi hnow hpre (fun b hb => ⟨ho b hb, hbd b hb⟩) ⟨_, hl⟩
      refine wpIn_mono hr ?_
      rintro e a₁ W₁ hp
      cases e with
      | normal =>
        obtain ⟨hT1, hbody⟩ := hp
        have hl1 : W₁.heap[l]? = some (.loop (rec .ready none)) := (hT1.2 l hlt (fun h => h (.inl rfl))).trans hl
        have hlt1 : l < W₁.heap.size := (Array.getElem?_eq_some_iff.1 hl1).1
        refine ⟨_, run_beginRound hl1 (by rw [hrc]), ?_⟩
        have hl2 : (W₁.putObj l (.loop { rec .ready none with state := .busy })).heap[l]? = some (.loop { rec .ready none with state := .busy }) := World.putObj_heap_same hlt1
        have hT2 : Turn (fun b => b = l) W₁ (W₁.putObj l (.loop { rec .ready none with state := .busy })) := Turn.putO (X := fun b => b = l) (Turn.refl _ W₁) (.inl rfl) _
        have hX : ∀ i, i = l → ¬ (D i ∨ O i) := fun i e => by
          rintro (h | h)
          · rw [e] at h; exact hDl h
          · rw [e] at h; exact Nat.lt_irrefl _ (ho l h)
        have t1 : Turn (fun b => ¬ (D b ∨ O b)) W (W₁.putObj l (.loop { rec .ready none with state := .busy })) := (hT1.imp (fun i _ h h2 => h (.inr h2))).putO (.inl (hX l rfl)) _
        have fin : ∀ (jump : Option Code) (W3 : World), Turn (fun b => ¬ (b = l ∨ D b ∨ O b)) (W₁.putObj l (.loop { rec .ready none with state := .busy })) W3 →
            (Instr.endRound l jump).run P W3 = .ok (.bool jump.isNone) (W3.putObj l (.loop (rec (if jump.isNone then .ready else .done) jump))) ∧
            (W3.putObj l (.loop (rec (if jump.isNone then .ready else .done) jump))).heap[l]? = some (.loop (rec (if jump.isNone then .ready else .done) jump)) ∧
            Turn (fun b => ¬ (D b ∨ O b)) W (W3.putObj l (.loop (rec (if jump.isNone then .ready else .done) jump))) := fun jump W3 hT3 => by
          have hl3 := (hT3.2 l (by rw [World.putObj_size]; exact hlt1) (fun h => h (.inl rfl))).trans hl2
          have hend := run_endRound (P := P) jump hl3
          have t2 := t1.trans hT3 (fun i _ h h2 => h (.inr h2))
          rw [hrc] at hend ⊢
          exact ⟨hend, World.putObj_heap_same (Array.getElem?_eq_some_iff.1 hl3).1, t2.putO (.inl (hX l rfl)) _⟩
        refine wpIn_mono (hbody _ hT2 ⟨_, hl2⟩) ?_
        rintro e3 a3 W3 hp3
        cases e3 with
        | normal =>
          obtain ⟨hi3, hT3⟩ := hp3
          obtain ⟨f1, f2, f3⟩ := fin none W3 hT3
          exact ⟨_, _, f1, .inl ⟨rfl, hI O _ W3 _ hi3 ((Turn.refl _ W3).putO (.inl (.inl rfl)) _), ho, f2⟩, f3⟩
        | ret =>
          obtain ⟨hi3, hT3⟩ := hp3
          obtain ⟨f1, f2, f3⟩ := fin (some .ret) W3 hT3
          exact ⟨_, _, f1, .inr ⟨rfl, .ret, hIx _ O W3 _ hi3 ((Turn.refl _ W3).putO (.inl (.inl rfl)) _), ho, f2⟩, f3⟩
        | exit id =>
          obtain ⟨hi3, hT3⟩ := hp3
          obtain ⟨f1, f2, f3⟩ := fin (some (.exit id)) W3 hT3
          exact ⟨_, _, f1, .inr ⟨rfl, .exit id, hIx _ O W3 _ hi3 ((Turn.refl _ W3).putO (.inl (.inl rfl)) _), ho, f2⟩, f3⟩
        | goto t =>
          obtain ⟨hi3, hT3⟩ := hp3
          obtain ⟨f1, f2, f3⟩ := fin (some (.goto t)) W3 hT3
          exact ⟨_, _, f1, .inr ⟨rfl, .goto t, hIx _ O W3 _ hi3 ((Turn.refl _ W3).putO (.inl (.inl rfl)) _), ho, f2⟩, f3⟩
        | panic ch => exact hp3.elim
        | outgrown => exact hp3.elim
      | ret => exact hp.elim
      | exit id => exact hp.elim
      | goto t => exact hp.elim
      | panic ch => exact hp.elim
      | outgrown => exact hp.elim
    · rintro e W2 ⟨rfl, O, (⟨hi, _, hl⟩ | ⟨c, hi, _, hl⟩)⟩
      · have hend := run_endLoop (P := P) hl (by rw [hrc]; simp)
        rw [hrc] at hend
        exact ⟨none, _, hend, hdone O _ (hI O _ W2 _ hi ((Turn.refl _ W2).putO (.inl (.inl rfl)) _))⟩
      · have hend := run_endLoop (P := P) hl (by rw [hrc]; simp)
        rw [hrc] at hend
        exact ⟨some c, _, hend, hstop c O _ (hIx c O W2 _ hi ((Turn.refl _ W2).putO (.inl (.inl rfl)) _))⟩

/-- THE STATEMENT IN A FUNCTION'S OWN CODE. -/
theorem rangeT {α : Type} {E : α → Array Value → World → Prop} {P : Program} {n m : Nat} {g : Operand} {ps : Array Tmp} {assign body : Code} {Q : Exit → Act → World → Prop} {a : Act} {w : World} {gf : Nat} {lb : Array Value}
    (hps : ∀ x v W, E x v W → v.size = ps.size) (hg : a.eval g = .func (.func gf) #[] lb) (eg : ∀ args w, (callFunc gf args).run P w = .ok (.enter gf args) w)
    {D : Nat → Prop} {all : List α} (hD : ∀ b, D b → b < w.heap.size)
    (hseq : ∀ W1, Below w.heap.size w W1 → SeqT E P gf lb D all W1)
    (I : (Nat → Prop) → List α → World → Prop) (Ix : Code → (Nat → Prop) → World → Prop)
    (hI0 : I (fun _ => False) [] w)
    (hIe : ∀ O O' pre W, I O pre W → (∀ b, O' b → O b ∨ W.heap.size ≤ b) → I O' pre W)
    (hI : ∀ O pre W W', I O pre W → Turn O W W' → I O pre W')
    (hIx : ∀ c O W W', Ix c O W → Turn O W W' → Ix c O W')
    (hround : ∀ l O pre x v W, I O pre W → E x v W → pre ++ [x] <+: all → O l → O w.heap.size → (∀ b, O b → w.heap.size ≤ b ∧ b < W.heap.size) → (∃ r, W.heap[l]? = some (.loop r)) →
      assign.wpIn (Fence.wide.inRound l) m P (Exit.then (fun a₁ W₁ => Turn (fun b => ¬ (D b ∨ O b)) W W₁ ∧ ∀ W₂, Turn (fun b => b = l) W₁ W₂ → (∃ r, W₂.heap[l]? = some (.loop r)) →
        body.wpIn (Fence.wide.inRound l) m P (leavesT (fun W₃ => I O (pre ++ [x]) W₃ ∧ Turn (fun b => ¬ (D b ∨ O b)) W₂ W₃) (fun c W₃ => Ix c O W₃ ∧ Turn (fun b => ¬ (D b ∨ O b)) W₂ W₃)) a₁ W₂) (fun _ _ _ => False))
        { tmps := (ps.zip v).foldl (fun t (x : Tmp × Value) => t.setIfInBounds x.1 x.2) a.tmps, defers := [] } W)
    (hdone : ∀ O W, O w.heap.size → I O all W → W.heap[w.heap.size]? = some (.deferred (some [])) → Q .normal { a with defers := { target := .collected w.heap.size, args := #[] } :: a.defers } W)
    (hstop : ∀ c O W, O w.heap.size → Ix c O W → W.heap[w.heap.size]? = some (.deferred (some [])) → c.wpIn Fence.wide n P Q { a with defers := { target := .collected w.heap.size, args := #[] } :: a.defers } W) :
    (Code.rangeFunc g ps assign body).wpIn Fence.wide n P Q a w := by
  obtain ⟨U, hU⟩ : ∃ U : (Nat → Prop) → Nat → Prop, U = fun O b => (w.heap.size ≤ b ∧ b < w.heap.size + 2) ∨ O b := ⟨_, rfl⟩
  have hU1 : ∀ O, U O (w.heap.size + 1) := fun O => by rw [hU]; exact .inl ⟨by omega, by omega⟩
  have hU0 : ∀ O, U O w.heap.size := fun O => by rw [hU]; exact .inl ⟨by omega, by omega⟩
  have hUo : ∀ O b, O b → U O b := fun O b h => by rw [hU]; exact .inr h
  have hkey : ∀ (o1 o2 : Obj), Below w.heap.size w ((w.alloc o1).alloc o2) := fun o1 o2 => ((Below.refl _ w).alloc (Nat.le_refl _) _).alloc (by simp) _
  refine rangeT_core (.inl rfl) hps hg eg (w.heap.size + 1) [{ target := .collected w.heap.size, args := #[] }] w.heap.size
    (fun fn => (w.alloc (.deferred (some []))).alloc (.loop { state := .ready, pending := none, fn, tmps := a.tmps, params := ps, assign, body, defers := w.heap.size }))
    (fun fn => run_enterLoop_outer _ _ _ _ _) (fun fn => ?_) (fun fn => hseq _ (hkey _ _)) (fun h => by have := hD _ h; omega)
    (fun O pre W => I (U O) pre W ∧ w.heap.size + 2 ≤ W.heap.size ∧ (∀ b, O b → w.heap.size + 2 ≤ b) ∧ W.heap[w.heap.size]? = some (.deferred (some []))) (fun c O W => Ix c (U O) W ∧ (∀ b, O b → w.heap.size + 2 ≤ b) ∧ W.heap[w.heap.size]? = some (.deferred (some []))) ?_ ?_ ?_ ?_ (m := m) ?_ ?_ ?_
  · have := World.alloc_heap_new (w.alloc (.deferred (some []))) (.loop { state := .ready, pending := none, fn, tmps := a.tmps, params := ps, assign, body, defers := w.heap.size })
    rwa [World.size_alloc] at this
  · intro fn
    refine ⟨hI _ _ w _ (hIe _ (U fun _ => False) _ _ hI0 fun b hb => ?_) (((Turn.refl _ w).alloc _).alloc _), by simp, fun _ h => h.elim, (Below.heap_alloc _ _ _ (by simp)).trans (World.alloc_heap_new w _)⟩
    rw [hU] at hb
    rcases hb with hb | hb
    · exact .inr hb.1
    · exact hb.elim
  · rintro O O' pre W ⟨hi, hs, ho, hk⟩ hx
    refine ⟨hIe _ _ _ _ hi fun b hb => ?_, hs, fun b hb => ?_, hk⟩
    · rw [hU] at hb
      rcases hb with hb | hb
      · left; rw [hU]; exact .inl hb
      · rcases hx b hb with h | h
        · exact .inl (hUo O b h)
        · exact .inr h
    · rcases hx b hb with h | h
      · exact ho b h
      · omega
  · rintro O pre W W' ⟨hi, hs, ho, hk⟩ hT
    have hT' : Turn (U O) W W' := hT.imp fun i _ h => h.elim (fun e => by rw [e]; exact hU1 O) (hUo O i)
    exact ⟨hI _ pre W W' hi hT', Nat.le_trans hs hT.size, ho, (hT.2 _ (Array.getElem?_eq_some_iff.1 hk).1 (fun h => h.elim (by omega) (fun h => by have := ho _ h; omega))).trans hk⟩
  · rintro c O W W' ⟨hi, ho, hk⟩ hT
    have hT' : Turn (U O) W W' := hT.imp fun i _ h => h.elim (fun e => by rw [e]; exact hU1 O) (hUo O i)
    exact ⟨hIx c _ W W' hi hT', ho, (hT.2 _ (Array.getElem?_eq_some_iff.1 hk).1 (fun h => h.elim (by omega) (fun h => by have := ho _ h; omega))).trans hk⟩
  · rintro O pre x v W ⟨hi, hs, ho, hk⟩ hnow hpre hbd hl
    have hUge : ∀ b, U O b → w.heap.size ≤ b ∧ b < W.heap.size := fun b hb => by
      rw [hU] at hb
      rcases hb with hb | hb
      · exact ⟨hb.1, by omega⟩
      · exact ⟨by have := ho b hb; omega, (hbd b hb).2⟩
    have himp : ∀ i, ¬ (D i ∨ U O i) → ¬ (i = w.heap.size + 1 ∨ D i ∨ O i) := fun i h h2 => by
      rcases h2 with h2 | h2 | h2
      · exact h (.inr (by rw [h2]; exact hU1 O))
      · exact h (.inl h2)
      · exact h (.inr (hUo O i h2))
    refine wpIn_mono (hround (w.heap.size + 1) (U O) pre x v W hi hnow hpre (hU1 O) (hU0 O) hUge hl) ?_
    rintro e a₁ W₁ hp
    cases e with
    | normal =>
      obtain ⟨hT1, hb⟩ := hp
      have hk1 := (hT1.2 _ (Array.getElem?_eq_some_iff.1 hk).1 (fun h => h (.inr (hU0 O)))).trans hk
      refine ⟨hT1.imp (fun i _ h => himp i h), fun W₂ hT2 hl2 => wpIn_mono (hb W₂ hT2 hl2) ?_⟩
      have hk2 := (hT2.2 _ (Array.getElem?_eq_some_iff.1 hk1).1 (by omega)).trans hk1
      have hs2 : w.heap.size + 2 ≤ W₂.heap.size := Nat.le_trans (Nat.le_trans hs hT1.size) hT2.size
      rintro e3 a3 W3 hp3
      cases e3 with
      | normal => exact ⟨⟨hp3.1, Nat.le_trans hs2 hp3.2.size, ho, (hp3.2.2 _ (Array.getElem?_eq_some_iff.1 hk2).1 (fun h => h (.inr (hU0 O)))).trans hk2⟩, hp3.2.imp (fun i _ h => himp i h)⟩
      | ret => exact ⟨⟨hp3.1, ho, (hp3.2.2 _ (Array.getElem?_eq_some_iff.1 hk2).1 (fun h => h (.inr (hU0 O)))).trans hk2⟩, hp3.2.imp (fun i _ h => himp i h)⟩
      | exit id => exact ⟨⟨hp3.1, ho, (hp3.2.2 _ (Array.getElem?_eq_some_iff.1 hk2).1 (fun h => h (.inr (hU0 O)))).trans hk2⟩, hp3.2.imp (fun i _ h => himp i h)⟩
      | goto t => exact ⟨⟨hp3.1, ho, (hp3.2.2 _ (Array.getElem?_eq_some_iff.1 hk2).1 (fun h => h (.inr (hU0 O)))).trans hk2⟩, hp3.2.imp (fun i _ h => himp i h)⟩
      | panic ch => exact hp3.elim
      | outgrown => exact hp3.elim
    | ret => exact hp.elim
    | exit id => exact hp.elim
    | goto t => exact hp.elim
    | panic ch => exact hp.elim
    | outgrown => exact hp.elim
  · rintro O W ⟨hi, _, _, hk⟩
    exact hdone _ W (hU0 O) hi hk
  · rintro c O W ⟨hi, _, hk⟩
    exact hstop c _ W (hU0 O) hi hk

/-- THE STATEMENT WITHIN A ROUND. -/
theorem rangeT_in {α : Type} {E : α → Array Value → World → Prop} {P : Program} {l₀ : Nat} {r₀ : Loop} {n m : Nat} {g : Operand} {ps : Array Tmp} {assign body : Code} {Q : Exit → Act → World → Prop} {a : Act} {w : World} {gf : Nat} {lb : Array Value}
    (hl₀ : w.heap[l₀]? = some (.loop r₀)) (hps : ∀ x v W, E x v W → v.size = ps.size) (hg : a.eval g = .func (.func gf) #[] lb) (eg : ∀ args w, (callFunc gf args).run P w = .ok (.enter gf args) w)
    {D : Nat → Prop} {all : List α} (hD : ∀ b, D b → b < w.heap.size)
    (hseq : ∀ W1, Below w.heap.size w W1 → SeqT E P gf lb D all W1)
    (I : (Nat → Prop) → List α → World → Prop) (Ix : Code → (Nat → Prop) → World → Prop)
    (hI0 : I (fun _ => False) [] w)
    (hIe : ∀ O O' pre W, I O pre W → (∀ b, O' b → O b ∨ W.heap.size ≤ b) → I O' pre W)
    (hI : ∀ O pre W W', I O pre W → Turn O W W' → I O pre W')
    (hIx : ∀ c O W W', Ix c O W → Turn O W W' → Ix c O W')
    (hround : ∀ l O pre x v W, I O pre W → E x v W → pre ++ [x] <+: all → O l → O w.heap.size → (∀ b, O b → w.heap.size ≤ b ∧ b < W.heap.size) → (∃ r, W.heap[l]? = some (.loop r)) →
      assign.wpIn (Fence.wide.inRound l) m P (Exit.then (fun a₁ W₁ => Turn (fun b => ¬ (D b ∨ O b)) W W₁ ∧ ∀ W₂, Turn (fun b => b = l) W₁ W₂ → (∃ r, W₂.heap[l]? = some (.loop r)) →
        body.wpIn (Fence.wide.inRound l) m P (leavesT (fun W₃ => I O (pre ++ [x]) W₃ ∧ Turn (fun b => ¬ (D b ∨ O b)) W₂ W₃) (fun c W₃ => Ix c O W₃ ∧ Turn (fun b => ¬ (D b ∨ O b)) W₂ W₃)) a₁ W₂) (fun _ _ _ => False))
        { tmps := (ps.zip v).foldl (fun t (x : Tmp × Value) => t.setIfInBounds x.1 x.2) a.tmps, defers := [] } W)
    (hdone : ∀ O W, O w.heap.size → I O all W → Q .normal a W)
    (hstop : ∀ c O W, O w.heap.size → Ix c O W → c.wpIn (Fence.wide.inRound l₀) n P Q a W) :
    (Code.rangeFunc g ps assign body).wpIn (Fence.wide.inRound l₀) n P Q a w := by
  obtain ⟨U, hU⟩ : ∃ U : (Nat → Prop) → Nat → Prop, U = fun O b => b = w.heap.size ∨ O b := ⟨_, rfl⟩
  have hU0 : ∀ O, U O w.heap.size := fun O => by rw [hU]; exact .inl rfl
  have hUo : ∀ O b, O b → U O b := fun O b h => by rw [hU]; exact .inr h
  have hkey : ∀ (o1 : Obj), Below w.heap.size w (w.alloc o1) := fun o1 => (Below.refl _ w).alloc (Nat.le_refl _) _
  refine rangeT_core (.inr ⟨l₀, rfl⟩) hps hg eg w.heap.size [] r₀.defers
    (fun fn => w.alloc (.loop { state := .ready, pending := none, fn, tmps := a.tmps, params := ps, assign, body, defers := r₀.defers }))
    (fun fn => run_enterLoop_inner hl₀ _ _ _ _ _) (fun fn => World.alloc_heap_new w _) (fun fn => hseq _ (hkey _)) (fun h => by have := hD _ h; omega)
    (fun O pre W => I (U O) pre W ∧ w.heap.size + 1 ≤ W.heap.size ∧ ∀ b, O b → w.heap.size + 1 ≤ b) (fun c O W => Ix c (U O) W ∧ ∀ b, O b → w.heap.size + 1 ≤ b) ?_ ?_ ?_ ?_ (m := m) ?_ ?_ ?_
  · intro fn
    refine ⟨hI _ _ w _ (hIe _ (U fun _ => False) _ _ hI0 fun b hb => ?_) ((Turn.refl _ w).alloc _), by simp, fun _ h => h.elim⟩
    rw [hU] at hb
    rcases hb with hb | hb
    · exact .inr (by omega)
    · exact hb.elim
  · rintro O O' pre W ⟨hi, hs, ho⟩ hx
    refine ⟨hIe _ _ _ _ hi fun b hb => ?_, hs, fun b hb => ?_⟩
    · rw [hU] at hb
      rcases hb with hb | hb
      · left; rw [hU]; exact .inl hb
      · rcases hx b hb with h | h
        · exact .inl (hUo O b h)
        · exact .inr h
    · rcases hx b hb with h | h
      · exact ho b h
      · omega
  · rintro O pre W W' ⟨hi, hs, ho⟩ hT
    exact ⟨hI _ pre W W' hi (hT.imp fun i _ h => h.elim (fun e => by rw [e]; exact hU0 O) (hUo O i)), Nat.le_trans hs hT.size, ho⟩
  · rintro c O W W' ⟨hi, ho⟩ hT
    exact ⟨hIx c _ W W' hi (hT.imp fun i _ h => h.elim (fun e => by rw [e]; exact hU0 O) (hUo O i)), ho⟩
  · rintro O pre x v W ⟨hi, hs, ho⟩ hnow hpre hbd hl
    have hUge : ∀ b, U O b → w.heap.size ≤ b ∧ b < W.heap.size := fun b hb => by
      rw [hU] at hb
      rcases hb with hb | hb
      · omega
      · exact ⟨by have := ho b hb; omega, (hbd b hb).2⟩
    have himp : ∀ i, ¬ (D i ∨ U O i) → ¬ (i = w.heap.size ∨ D i ∨ O i) := fun i h h2 => by
      rcases h2 with h2 | h2 | h2
      · exact h (.inr (by rw [h2]; exact hU0 O))
      · exact h (.inl h2)
      · exact h (.inr (hUo O i h2))
    refine wpIn_mono (hround w.heap.size (U O) pre x v W hi hnow hpre (hU0 O) (hU0 O) hUge hl) ?_
    rintro e a₁ W₁ hp
    cases e with
    | normal =>
      obtain ⟨hT1, hb⟩ := hp
      refine ⟨hT1.imp (fun i _ h => himp i h), fun W₂ hT2 hl2 => wpIn_mono (hb W₂ hT2 hl2) ?_⟩
      have hs2 : w.heap.size + 1 ≤ W₂.heap.size := Nat.le_trans (Nat.le_trans hs hT1.size) hT2.size
      rintro e3 a3 W3 hp3
      cases e3 with
      | normal => exact ⟨⟨hp3.1, Nat.le_trans hs2 hp3.2.size, ho⟩, hp3.2.imp (fun i _ h => himp i h)⟩
      | ret => exact ⟨⟨hp3.1, ho⟩, hp3.2.imp (fun i _ h => himp i h)⟩
      | exit id => exact ⟨⟨hp3.1, ho⟩, hp3.2.imp (fun i _ h => himp i h)⟩
      | goto t => exact ⟨⟨hp3.1, ho⟩, hp3.2.imp (fun i _ h => himp i h)⟩
      | panic ch => exact hp3.elim
      | outgrown => exact hp3.elim
    | ret => exact hp.elim
    | exit id => exact hp.elim
    | goto t => exact hp.elim
    | panic ch => exact hp.elim
    | outgrown => exact hp.elim
  · rintro O W ⟨hi, _, _⟩
    exact hdone _ W (hU0 O) hi
  · rintro c O W ⟨hi, _⟩
    exact hstop c _ W (hU0 O) hi
end Go.Proofs.Ythbhengcinkepaa

namespace Go.Proofs.Ythbhengcinkepaa
open Go.RowKit Go.Shelf Lamp

attribute [local go_sem] Oper.semAt_some

/-- The yielded value is that jump. -/
def IsJump (x : Tri) (v : Array Value) (_ : World) : Prop := v = #[.agg #[.int .i64 x.1, .int .i64 x.2.1, .int .i64 x.2.2]]

theorem possible_any (A : Option Addr) (m c : Nat) (p : Int) (w : World) :
    Calls Try.prog 58 #[.slice A m c, .int .i64 p] w fun e w' => e = .returned (.func (.func 98) #[] #[.pointer (some ⟨w.heap.size, 0, none⟩), .pointer (some ⟨w.heap.size + 1, 0, none⟩)]) ∧ w' = (w.alloc (Obj.cells #[.slice A m c] 102)).alloc (Obj.cells #[.int .i64 p] 3) := by
  go_enter Try.func58, Try.ntmps58
  go_wp2_with fail
  go_ret
  exact ⟨rfl, rfl⟩

theorem filter_snoc {L : List Tri} {P : Tri → Bool} {k : Nat} {x : Tri} (h : L[k]? = some x) : (L.take (k + 1)).filter P = if P x = true then (L.take k).filter P ++ [x] else (L.take k).filter P := by
  have h2 := List.getElem?_eq_some_iff.1 h
  rw [List.take_succ_eq_append_getElem h2.1, h2.2, List.filter_append]
  by_cases hp : P x = true
  · simp [hp]
  · simp [hp]
theorem filter_pre {L : List Tri} {P : Tri → Bool} {k : Nat} {x : Tri} (h : L[k]? = some x) (hp : P x = true) : (L.take k).filter P ++ [x] <+: L.filter P := by
  have h1 := filter_snoc (P := P) h
  rw [if_pos hp] at h1
  rw [← h1]
  exact (List.take_prefix _ _).filter _

set_option maxRecDepth 100000 in
set_option maxHeartbeats 4000000 in
theorem possible_seq (Bs Bp _B0 n p c : Nat) (A : Option Addr) (L : List Tri) (D : Nat → Prop) (W1 : World) (hn : n ≤ 16) (hp : p < 65536) (hok : LinesOk n L) (hl : L.length ≤ 1000000) (hbs : Box W1 Bs 102 #[.slice A L.length c]) (hbp : Box W1 Bp 3 #[.int .i64 p]) (hr : RTri W1 W1.heap.size A L) (hA : ∀ b o, A = some ⟨b, o, none⟩ → D b) (_hDs : D Bs) (hDp : D Bp) :
    SeqT IsJump Try.prog 98 #[.pointer (some ⟨Bs, 0, none⟩), .pointer (some ⟨Bp, 0, none⟩)] D (L.filter fun j => canJ j p) W1 := by
  intro l J S hJ0 hJe hJ hS hY
  have HBS := Lib.hid hbs
  have HBP := Lib.hid hbp
  have HR := Lib.hid hr
  have HJ0 := Lib.hid hJ0
  have HJT := Lib.hid hJ
  have HST := Lib.hid hS
  have HY := Lib.hid hY
  have HK := Lib.hid hok
  have HAD := Lib.hid hA
  have hc0 := hbs.cell 0
  have hlt1 := hbs.lt
  have hlt2 := hbp.lt
  simp only [List.getElem?_toArray, List.getElem?_cons_zero] at hc0
  clear hbs hbp hr hJ0 hJ hJe hS hY hok hA
  refine (callsIn_wide (n := 3)).1 ?_
  refine callsIn_of_wp Try.func98 rfl trivial ?_ rfl
  simp only [Try.ntmps98, List.size_toArray, List.length_cons, List.length_nil, Nat.reduceAdd, Nat.reduceSub, Array.replicate_succ, Array.replicate_zero, List.push_toArray, List.append_toArray, List.nil_append, List.cons_append]
  gi_wp2
  clear hc0
  gi_loopw [8] (fun q wr => ∃ k : Nat, q = .int .i64 k ∧ k ≤ L.length ∧ Hid (J (fun _ => False) ((L.take k).filter fun j => canJ j p) wr) ∧ Hid (Turn (fun b => ¬ D b) W1 wr)) (fun q _ => L.length - (intOf q).toNat)
  case atStart => exact ⟨0, rfl, by omega, HJ0, Lib.hid (Turn.refl _ _)⟩
  case round =>
    clear HJ0
    obtain ⟨k, rfl, hk, HJ1, HT1⟩ := hrel
    have HJK := HJ1
    have HT := HT1
    clear HJ1 HT1
    by_cases hlt : k < L.length
    · obtain ⟨b, o, x, y, z, hA, hb, hx, hc1, hc2, hc3⟩ := HR.out.at_ hlt
      subst hA
      have hDb := HAD.out b o rfl
      have hc1 := (HT.out.cell (p := ⟨b, o + k * 3, none⟩) hb (fun h => h hDb)).trans hc1
      have hc2 := (HT.out.cell (p := ⟨b, o + k * 3 + 1, none⟩) hb (fun h => h hDb)).trans hc2
      have hc3 := (HT.out.cell (p := ⟨b, o + k * 3 + 2, none⟩) hb (fun h => h hDb)).trans hc3
      obtain ⟨a1, a2, a3, he, ha1, ha2, ha3⟩ := (HK.out _ (List.mem_of_getElem? hx)).nat hn
      cases he
      have hcp := (HBP.out.turn HT.out (fun h => h hDp)).cell 0
      simp only [List.getElem?_toArray, List.getElem?_cons_zero] at hcp
      have hszk := HT.out.size
      have hlw : wr.heap.size < (wr.alloc (Obj.cells #[Value.int IntKind.i64 a1, Value.int IntKind.i64 a2, Value.int IntKind.i64 a3] 105)).heap.size := by simp
      have HBO := Lib.hid (Box.new wr 105 #[Value.int IntKind.i64 a1, Value.int IntKind.i64 a2, Value.int IntKind.i64 a3])
      have HTA := Lib.hid ((Turn.refl (fun _ => False) wr).alloc (Obj.cells #[Value.int IntKind.i64 a1, Value.int IntKind.i64 a2, Value.int IntKind.i64 a3] 105))
      have HFS := Lib.hid (filter_snoc (P := fun j => canJ j p) hx)
      have HFP := Lib.hid (filter_pre (P := fun j => canJ j p) hx)
      have hcp2 := (World.cell?_alloc_lt wr (Obj.cells #[Value.int IntKind.i64 a1, Value.int IntKind.i64 a2, Value.int IntKind.i64 a3] 105) ⟨Bp, 0, none⟩ (by show Bp < _; omega)).trans hcp
      clear hx
      cases hcan : canJ ((a1 : Int), (a2 : Int), (a3 : Int)) p
      · have HC := Lib.hid hcan
        clear hcan
        gi_wp2
        refine ⟨trivial, (callsIn_wide.2 (isPossible_of _ ha1 ha2 ha3 hp HC.out)).mono ?_⟩
        rintro e w2 ⟨rfl, hb2⟩
        have HT2 := Lib.hid (HTA.out.below hb2 (by omega))
        clear hb2 hc1 hc2 hc3 hcp hcp2
        gi_wp2
        refine ⟨(fun _ h => by cases h), ?_⟩
        gi_wp2
        go_roundw
        case rel =>
          refine ⟨k + 1, by go_num, by omega, ?_, Lib.hid (HT.out.trans HT2.out fun i _ h => h.elim)⟩
          rw [HFS.out, HC.out, if_neg (by simp)]
          exact Lib.hid (HJT.out _ _ _ _ HJK.out HT2.out)
        case measure => simp [intOf]; omega
      · have HC := Lib.hid hcan
        clear hcan
        gi_wp2
        refine ⟨trivial, (callsIn_wide.2 (isPossible_of _ ha1 ha2 ha3 hp HC.out)).mono ?_⟩
        rintro e w2 ⟨rfl, hb2⟩
        have HT2 := Lib.hid (HTA.out.below hb2 (by omega))
        have hbx2 := HBO.out.below hb2 hlw
        have x0 := hbx2.cell 0
        have x1 := hbx2.cell 1
        have x2 := hbx2.cell 2
        simp only [List.getElem?_toArray, List.getElem?_cons_zero, List.getElem?_cons_succ] at x0 x1 x2
        have HJ2 := Lib.hid (HJT.out _ _ _ _ HJK.out HT2.out)
        clear hb2 hc1 hc2 hc3 hcp hcp2 hbx2
        obtain ⟨fn, tmps, assign, body, hy, hR⟩ := HY.out (fun _ => False) _ ((a1 : Int), (a2 : Int), (a3 : Int)) _ w2 HJ2.out rfl (HFP.out HC.out) (fun _ h => h.elim)
        have hR := RoundIn.anyDepthE (m' := 2) hR
        gi_wp2
        refine hR.mono ?_
        clear hR hy
        rintro e W3 ⟨(⟨rfl, hJ3⟩ | ⟨rfl, hS3⟩), hT3⟩
        · have HJ3 := Lib.hid hJ3
          have HT3 := Lib.hid (show Turn (fun b => ¬ D b) W1 W3 from ((HT.out.trans HT2.out fun i _ h => h.elim).trans hT3 fun i _ h hd => h (.inl hd)))
          clear hJ3 hT3 x0 x1 x2
          gi_wp2
          go_roundw
          case rel => exact ⟨k + 1, by go_num, by omega, by rw [HFS.out, HC.out, if_pos rfl]; exact HJ3, HT3⟩
          case measure => simp [intOf]; omega
        · have HS3 := Lib.hid hS3
          clear hS3 hT3 x0 x1 x2
          gi_wp2
          go_returns
          exact ⟨rfl, _, .inr HS3.out⟩
    · obtain rfl : k = L.length := by omega
      gi_wp2
      go_end0
      refine ⟨rfl, (fun _ => False), .inl ?_⟩
      have h1 := HJK.out
      rwa [List.take_length] at h1
end Go.Proofs.Ythbhengcinkepaa
