/- A range over a function whose iterator hands out values of some kind: what the iterator promises, and the law for the statement. -/
import Derived.Test.YthbhengcinkepaaBoxes
import Derived.RangeFuncNested
import Derived.RangeFuncBound
import Derived.RangeFuncCalls
import Derived.RangeFuncLeaves
import Derived.Shelf.Abstract
import Derived.Shelf.RegionOpen
import Derived.OwnWalkIn
import Derived.TacticsInMore
import Derived.LoopNIn
import Derived.LoopIn
namespace Go.Proofs.Ythbhengcinkepaa
open Go.RowKit Go.Shelf

theorem Turn.putO {X : Nat → Prop} {a w : World} (h : Turn X a w) {r : Nat} (hr : X r ∨ a.heap.size ≤ r) (o : Obj) : Turn X a (w.putObj r o) :=
  ⟨⟨h.1.os, h.1.tape, h.1.output, by rw [World.putObj_size]; exact h.1.size, fun k hk => absurd hk (Nat.not_lt_zero k)⟩, fun i hi hx => (World.putObj_heap_other (by
    rintro rfl
    rcases hr with hr | hr
    · exact hx hr
    · omega)).trans (h.2 i hi hx)⟩

/-- What an iterator of lists promises: D: the blocks that it reads. -/
def SeqE {α : Type} (E : α → Value → World → Prop) (P : Program) (gf : Nat) (lb : Array Value) (D : Nat → Prop) (all : List α) (W1 : World) : Prop :=
  ∀ (l : Nat) (J : Nat → List α → World → Prop),
    (∀ z W, Below W1.heap.size W1 W → W1.heap.size ≤ z → z ≤ W.heap.size → J z [] W) →
    (∀ z pre W W', J z pre W → Turn (fun b => W1.heap.size ≤ b ∧ b < z) W W' → J z pre W') →
    (∀ z pre x v W, J z pre W → E x v W → pre ++ [x] <+: all → YieldAt Fence.wide 0 P l #[v] W fun e W' =>
      e = .returned (.bool true) ∧ J z (pre ++ [x]) W' ∧ Turn (fun b => ¬ (D b ∨ (W1.heap.size ≤ b ∧ b < z))) W W') →
    Calls P gf (#[.func (.yield l) #[] #[]] ++ lb) W1 fun e W' => e = .returned (.tuple #[]) ∧ ∃ z, J z all W'

/-- A round that goes on. -/
def goesOnE (R : World → Prop) : Exit → Act → World → Prop
  | .normal, _, W => R W
  | _, _, _ => False

theorem RoundIn.anyDepthE {m m' : Nat} {P : Program} {l : Nat} {f : FuncId} {tmps : Array Value} {assign body : Code} {w : World} {R : Ending → World → Prop}
    (h : RoundIn Fence.wide m P l f tmps assign body w R) : RoundIn Fence.wide m' P l f tmps assign body w R := ⟨h.1, fun c cs _ => h.2 c cs (room_wide _)⟩

theorem rangeE_core {α : Type} {E : α → Value → World → Prop} {P : Program} {F : Fence} (hFd : F = Fence.wide ∨ ∃ l₀, F = Fence.wide.inRound l₀) {n m : Nat} {g : Operand} {p0 : Tmp} {assign body : Code} {Q : Exit → Act → World → Prop} {a : Act} {w : World} {gf : Nat} {lb : Array Value}
    (hg : a.eval g = .func (.func gf) #[] lb) (eg : ∀ args w, (callFunc gf args).run P w = .ok (.enter gf args) w)
    {D : Nat → Prop} {all : List α} (l s1 : Nat) (mark : List Deferred) (dfr : Nat) (W1 : FuncId → World) (hls : l < s1)
    (henter : ∀ fn, (Instr.enterLoop fn a.tmps #[p0] assign body F.round).run P w = .ok (l, mark) (W1 fn))
    (hrec : ∀ fn, (W1 fn).heap[l]? = some (.loop { state := .ready, pending := none, fn, tmps := a.tmps, params := #[p0], assign, body, defers := dfr }))
    (hs1 : ∀ fn, (W1 fn).heap.size = s1) (hseq : ∀ fn, SeqE E P gf lb D all (W1 fn)) (hDl : ¬ D l)
    (I : Nat → List α → World → Prop)
    (hI0 : ∀ fn z W, Below s1 (W1 fn) W → s1 ≤ z → z ≤ W.heap.size → I z [] W)
    (hI : ∀ z pre W W', I z pre W → Turn (fun b => b = l ∨ (s1 ≤ b ∧ b < z)) W W' → I z pre W')
    (hround : ∀ z pre x v W, I z pre W → E x v W → pre ++ [x] <+: all → (∃ r, W.heap[l]? = some (.loop r)) →
      assign.wpIn (Fence.wide.inRound l) m P (Exit.then (fun a₁ W₁ => Turn (fun b => ¬ (b = l ∨ D b ∨ (s1 ≤ b ∧ b < z))) W W₁ ∧ ∀ W₂, Turn (fun b => b = l) W₁ W₂ → (∃ r, W₂.heap[l]? = some (.loop r)) →
        body.wpIn (Fence.wide.inRound l) m P (goesOnE fun W₃ => I z (pre ++ [x]) W₃ ∧ Turn (fun b => ¬ (b = l ∨ D b ∨ (s1 ≤ b ∧ b < z))) W₂ W₃) a₁ W₂) (fun _ _ _ => False))
        { tmps := a.tmps.setIfInBounds p0 v, defers := [] } W)
    (hdone : ∀ z W, I z all W → Q .normal { a with defers := mark ++ a.defers } W) :
    (Code.rangeFunc g #[p0] assign body).wpIn F n P Q a w := by
  have hfnF : ∀ f, F.fn f := by rcases hFd with rfl | ⟨l₀, rfl⟩ <;> exact fun _ => trivial
  have hdF : F.depth.isSome = true → 1 ≤ n := by rcases hFd with rfl | ⟨l₀, rfl⟩ <;> exact fun h => by cases h
  have hcallF : ∀ {k : Nat} {f : FuncId} {args : Array Value} {W : World} {R : Ending → World → Prop}, Calls P f args W R → CallsIn F k P f args W R := by
    rcases hFd with rfl | ⟨l₀, rfl⟩
    · exact fun h => callsIn_wide.2 h
    · exact fun h => CallsIn.inRound l₀ (callsIn_wide.2 h)
  refine wpIn_rangeFunc ?_
  intro fn _
  obtain ⟨rec, hrc⟩ : ∃ rec : LoopState → Option Code → Loop, rec = fun st pe => { state := st, pending := pe, fn, tmps := a.tmps, params := #[p0], assign, body, defers := dfr } := ⟨_, rfl⟩
  have hL1 : (W1 fn).heap[l]? = some (.loop (rec .ready none)) := by rw [hrec fn, hrc]
  refine ⟨l, mark, W1 fn, { target := .fn (.func gf) lb, args := #[.func (.yield l) #[] #[]] }, W1 fn, gf, #[.func (.yield l) #[] #[]] ++ lb, W1 fn, henter fn, ?_, fun f' _ => hfnF f', ?_, hdF, ?_⟩
  · simp only [resolve, hg]
    simp [go_sem]
  · simp [invoke, go_sem, eg]
  · refine hcallF ((hseq fn l (fun z pre W => I z pre W ∧ W.heap[l]? = some (.loop (rec .ready none))) ?_ ?_ ?_).mono ?_)
    · intro z W hb hz1 hz2
      rw [hs1] at hz1 hb
      exact ⟨hI0 fn z W hb hz1 hz2, (hb.block l hls).trans hL1⟩
    · rintro z pre W W' ⟨hi, hl⟩ hT
      rw [hs1] at hT
      refine ⟨hI z pre W W' hi (hT.imp fun i _ h => .inr h), (hT.2 l (Array.getElem?_eq_some_iff.1 hl).1 (by omega)).trans hl⟩
    · rintro z pre x v W ⟨hi, hl⟩ hnow hpre
      rw [hs1]
      have hlt : l < W.heap.size := (Array.getElem?_eq_some_iff.1 hl).1
      have hy := run_yield (P := P) (args := #[v]) hl (by rw [hrc]; rfl)
      rw [hrc] at hy
      refine ⟨fn, _, assign, body, hy, RoundIn.anyDepthE (m := m) (roundIn_of_wpIn (by exact trivial) ?_)⟩
      have hr := hround z pre x v W hi hnow hpre ⟨_, hl⟩
      have he : (#[p0].zip #[v]).foldl (fun tmps (x : Tmp × Value) => tmps.setIfInBounds x.1 x.2) a.tmps = a.tmps.setIfInBounds p0 v := by simp
      refine wpIn_mono (by exact he ▸ hr) ?_
      rintro e a₁ W₁ hp
      cases e with
      | normal =>
        obtain ⟨hT1, hbody⟩ := hp
        have hl1 : W₁.heap[l]? = some (.loop (rec .ready none)) := (hT1.2 l hlt (fun h => h (.inl rfl))).trans hl
        have hlt1 : l < W₁.heap.size := (Array.getElem?_eq_some_iff.1 hl1).1
        refine ⟨_, run_beginRound hl1 (by rw [hrc]), ?_⟩
        have hl2 : (W₁.putObj l (.loop { rec .ready none with state := .busy })).heap[l]? = some (.loop { rec .ready none with state := .busy }) := World.putObj_heap_same hlt1
        have hT2 : Turn (fun b => b = l) W₁ (W₁.putObj l (.loop { rec .ready none with state := .busy })) := Turn.putO (X := fun b => b = l) (Turn.refl _ W₁) (.inl rfl) _
        refine wpIn_mono (hbody _ hT2 ⟨_, hl2⟩) ?_
        rintro e3 a3 W3 hp3
        cases e3 with
        | normal =>
          obtain ⟨hi3, hT3⟩ := hp3
          have hl3 := (hT3.2 l (by rw [World.putObj_size]; exact hlt1) (fun h => h (.inl rfl))).trans hl2
          have hend := run_endRound (P := P) none hl3
          refine ⟨_, _, hend, rfl, ⟨hI z _ W3 _ hi3 ((Turn.refl _ W3).putO (.inl (.inl rfl)) _), ?_⟩, ?_⟩
          · have := World.putObj_heap_same (w := W3) (r := l) (o := .loop { ({ rec .ready none with state := .busy } : Loop) with state := if (none : Option Code).isNone then .ready else .done, pending := none }) (Array.getElem?_eq_some_iff.1 hl3).1
            rw [hrc] at this ⊢
            exact this
          · have hX : ∀ i, i = l → ¬ (D i ∨ (s1 ≤ i ∧ i < z)) := fun i e => by
              rintro (h | h)
              · rw [e] at h; exact hDl h
              · omega
            have t1 : Turn (fun b => ¬ (D b ∨ (s1 ≤ b ∧ b < z))) W (W₁.putObj l (.loop { rec .ready none with state := .busy })) := (hT1.imp (fun i _ h h2 => h (.inr h2))).putO (.inl (hX l rfl)) _
            have t2 := t1.trans hT3 (fun i _ h h2 => h (.inr h2))
            exact t2.putO (.inl (hX l rfl)) _
        | ret => exact hp3.elim
        | exit id => exact hp3.elim
        | goto t => exact hp3.elim
        | panic ch => exact hp3.elim
        | outgrown => exact hp3.elim
      | ret => exact hp.elim
      | exit id => exact hp.elim
      | goto t => exact hp.elim
      | panic ch => exact hp.elim
      | outgrown => exact hp.elim
    · rintro e W2 ⟨rfl, z, hi, hl⟩
      have hend := run_endLoop (P := P) hl (by rw [hrc]; simp)
      rw [hrc] at hend
      exact ⟨none, _, hend, hdone z _ (hI z _ W2 _ hi ((Turn.refl _ W2).putO (.inl (.inl rfl)) _))⟩

/-- THE STATEMENT IN A FUNCTION'S OWN CODE. -/
theorem rangeE {α : Type} {E : α → Value → World → Prop} {P : Program} {n m : Nat} {g : Operand} {p0 : Tmp} {assign body : Code} {Q : Exit → Act → World → Prop} {a : Act} {w : World} {gf : Nat} {lb : Array Value}
    (hg : a.eval g = .func (.func gf) #[] lb) (eg : ∀ args w, (callFunc gf args).run P w = .ok (.enter gf args) w)
    {D : Nat → Prop} {all : List α} (hD : ∀ b, D b → b < w.heap.size)
    (hseq : ∀ W1, Below w.heap.size w W1 → SeqE E P gf lb D all W1)
    (I : Nat → List α → World → Prop)
    (hI0 : ∀ z W, Below w.heap.size w W → w.heap.size ≤ z → z ≤ W.heap.size → I z [] W)
    (hI : ∀ z pre W W', I z pre W → Turn (fun b => w.heap.size ≤ b ∧ b < z) W W' → I z pre W')
    (hround : ∀ l z pre x v W, I z pre W → E x v W → pre ++ [x] <+: all → w.heap.size ≤ l → l < z → (∃ r, W.heap[l]? = some (.loop r)) →
      assign.wpIn (Fence.wide.inRound l) m P (Exit.then (fun a₁ W₁ => Turn (fun b => ¬ (D b ∨ (w.heap.size ≤ b ∧ b < z))) W W₁ ∧ ∀ W₂, Turn (fun b => b = l) W₁ W₂ → (∃ r, W₂.heap[l]? = some (.loop r)) →
        body.wpIn (Fence.wide.inRound l) m P (goesOnE fun W₃ => I z (pre ++ [x]) W₃ ∧ Turn (fun b => ¬ (D b ∨ (w.heap.size ≤ b ∧ b < z))) W₂ W₃) a₁ W₂) (fun _ _ _ => False))
        { tmps := a.tmps.setIfInBounds p0 v, defers := [] } W)
    (hdone : ∀ z W, I z all W → W.heap[w.heap.size]? = some (.deferred (some [])) → Q .normal { a with defers := { target := .collected w.heap.size, args := #[] } :: a.defers } W) :
    (Code.rangeFunc g #[p0] assign body).wpIn Fence.wide n P Q a w := by
  have hkey : ∀ (W : World) (o1 o2 : Obj), Below w.heap.size w ((w.alloc o1).alloc o2) := fun W o1 o2 => ((Below.refl _ w).alloc (Nat.le_refl _) _).alloc (by simp) _
  refine rangeE_core (.inl rfl) hg eg (w.heap.size + 1) (w.heap.size + 2) [{ target := .collected w.heap.size, args := #[] }] w.heap.size
    (fun fn => (w.alloc (.deferred (some []))).alloc (.loop { state := .ready, pending := none, fn, tmps := a.tmps, params := #[p0], assign, body, defers := w.heap.size })) (by omega)
    (fun fn => run_enterLoop_outer _ _ _ _ _) (fun fn => ?_) (fun fn => by simp) (fun fn => hseq _ (hkey w _ _)) (fun h => by have := hD _ h; omega)
    (fun z pre W => (I z pre W ∧ w.heap.size + 2 ≤ z) ∧ W.heap[w.heap.size]? = some (.deferred (some []))) ?_ ?_ (m := m) ?_ ?_
  · have := World.alloc_heap_new (w.alloc (.deferred (some []))) (.loop { state := .ready, pending := none, fn, tmps := a.tmps, params := #[p0], assign, body, defers := w.heap.size })
    rwa [World.size_alloc] at this
  · intro fn z W hb hz1 hz2
    refine ⟨⟨hI0 z W ((hkey w _ _).trans (hb.mono (by omega))) (by omega) hz2, hz1⟩, (hb.block _ (by omega)).trans ((Below.heap_alloc _ _ _ (by simp)).trans (World.alloc_heap_new w _))⟩
  · rintro z pre W W' ⟨⟨hi, hz⟩, hk⟩ hT
    exact ⟨⟨hI z pre W W' hi (hT.imp fun i _ h => by omega), hz⟩, (hT.2 _ (Array.getElem?_eq_some_iff.1 hk).1 (by omega)).trans hk⟩
  · rintro z pre x v W ⟨⟨hi, hz⟩, hk⟩ hnow hpre hl
    refine wpIn_mono (hround (w.heap.size + 1) z pre x v W hi hnow hpre (by omega) (by omega) hl) ?_
    rintro e a₁ W₁ hp
    cases e with
    | normal =>
      obtain ⟨hT1, hb⟩ := hp
      have hk1 := (hT1.2 _ (Array.getElem?_eq_some_iff.1 hk).1 (fun h => h (.inr ⟨Nat.le_refl _, by omega⟩))).trans hk
      refine ⟨hT1.imp (fun i _ h h2 => h2.elim (fun e => h (.inr ⟨by omega, by omega⟩)) (fun h3 => h3.elim (fun d => h (.inl d)) (fun e => h (.inr ⟨by omega, by omega⟩)))), fun W₂ hT2 hl2 => wpIn_mono (hb W₂ hT2 hl2) ?_⟩
      have hk2 := (hT2.2 _ (Array.getElem?_eq_some_iff.1 hk1).1 (by omega)).trans hk1
      rintro e3 a3 W3 hp3
      cases e3 with
      | normal => exact ⟨⟨⟨hp3.1, hz⟩, (hp3.2.2 _ (Array.getElem?_eq_some_iff.1 hk2).1 (fun h => h (.inr ⟨Nat.le_refl _, by omega⟩))).trans hk2⟩, hp3.2.imp (fun i _ h h2 => h2.elim (fun e => h (.inr ⟨by omega, by omega⟩)) (fun h3 => h3.elim (fun d => h (.inl d)) (fun e => h (.inr ⟨by omega, by omega⟩))))⟩
      | _ => exact hp3.elim
    | _ => exact hp.elim
  · rintro z W ⟨⟨hi, _⟩, hk⟩
    exact hdone z W hi hk

/-- THE STATEMENT WITHIN A ROUND. -/
theorem rangeE_in {α : Type} {E : α → Value → World → Prop} {P : Program} {l₀ : Nat} {r₀ : Loop} {n m : Nat} {g : Operand} {p0 : Tmp} {assign body : Code} {Q : Exit → Act → World → Prop} {a : Act} {w : World} {gf : Nat} {lb : Array Value}
    (hl₀ : w.heap[l₀]? = some (.loop r₀)) (hg : a.eval g = .func (.func gf) #[] lb) (eg : ∀ args w, (callFunc gf args).run P w = .ok (.enter gf args) w)
    {D : Nat → Prop} {all : List α} (hD : ∀ b, D b → b < w.heap.size)
    (hseq : ∀ W1, Below w.heap.size w W1 → SeqE E P gf lb D all W1)
    (I : Nat → List α → World → Prop)
    (hI0 : ∀ z W, Below w.heap.size w W → w.heap.size ≤ z → z ≤ W.heap.size → I z [] W)
    (hI : ∀ z pre W W', I z pre W → Turn (fun b => w.heap.size ≤ b ∧ b < z) W W' → I z pre W')
    (hround : ∀ l z pre x v W, I z pre W → E x v W → pre ++ [x] <+: all → w.heap.size ≤ l → l < z → (∃ r, W.heap[l]? = some (.loop r)) →
      assign.wpIn (Fence.wide.inRound l) m P (Exit.then (fun a₁ W₁ => Turn (fun b => ¬ (D b ∨ (w.heap.size ≤ b ∧ b < z))) W W₁ ∧ ∀ W₂, Turn (fun b => b = l) W₁ W₂ → (∃ r, W₂.heap[l]? = some (.loop r)) →
        body.wpIn (Fence.wide.inRound l) m P (goesOnE fun W₃ => I z (pre ++ [x]) W₃ ∧ Turn (fun b => ¬ (D b ∨ (w.heap.size ≤ b ∧ b < z))) W₂ W₃) a₁ W₂) (fun _ _ _ => False))
        { tmps := a.tmps.setIfInBounds p0 v, defers := [] } W)
    (hdone : ∀ z W, I z all W → Q .normal a W) :
    (Code.rangeFunc g #[p0] assign body).wpIn (Fence.wide.inRound l₀) n P Q a w := by
  have hkey : ∀ (o1 : Obj), Below w.heap.size w (w.alloc o1) := fun o1 => (Below.refl _ w).alloc (Nat.le_refl _) _
  refine rangeE_core (.inr ⟨l₀, rfl⟩) hg eg w.heap.size (w.heap.size + 1) [] r₀.defers
    (fun fn => w.alloc (.loop { state := .ready, pending := none, fn, tmps := a.tmps, params := #[p0], assign, body, defers := r₀.defers })) (by omega)
    (fun fn => run_enterLoop_inner hl₀ _ _ _ _ _) (fun fn => World.alloc_heap_new w _) (fun fn => by simp) (fun fn => hseq _ (hkey _)) (fun h => by have := hD _ h; omega)
    (fun z pre W => I z pre W ∧ w.heap.size + 1 ≤ z) ?_ ?_ (m := m) ?_ ?_
  · intro fn z W hb hz1 hz2
    exact ⟨hI0 z W ((hkey _).trans (hb.mono (by omega))) (by omega) hz2, hz1⟩
  · rintro z pre W W' ⟨hi, hz⟩ hT
    exact ⟨hI z pre W W' hi (hT.imp fun i _ h => by omega), hz⟩
  · rintro z pre x v W ⟨hi, hz⟩ hnow hpre hl
    refine wpIn_mono (hround w.heap.size z pre x v W hi hnow hpre (by omega) (by omega) hl) ?_
    rintro e a₁ W₁ hp
    cases e with
    | normal =>
      obtain ⟨hT1, hb⟩ := hp
      refine ⟨hT1.imp (fun i _ h h2 => h2.elim (fun e => h (.inr ⟨by omega, by omega⟩)) (fun h3 => h3.elim (fun d => h (.inl d)) (fun e => h (.inr ⟨by omega, by omega⟩)))), fun W₂ hT2 hl2 => wpIn_mono (hb W₂ hT2 hl2) ?_⟩
      rintro e3 a3 W3 hp3
      cases e3 with
      | normal => exact ⟨⟨hp3.1, hz⟩, hp3.2.imp (fun i _ h h2 => h2.elim (fun e => h (.inr ⟨by omega, by omega⟩)) (fun h3 => h3.elim (fun d => h (.inl d)) (fun e => h (.inr ⟨by omega, by omega⟩))))⟩
      | _ => exact hp3.elim
    | _ => exact hp.elim
  · rintro z W ⟨hi, _⟩
    exact hdone z W hi

end Go.Proofs.Ythbhengcinkepaa
