/- The rules' basis of lines: equations of the lines, reduced; a rule for each hole that is no equation's own. -/
import Derived.Test.YthbhengcinkepaaPg3
import Derived.Test.YthbhengcinkepaaGames
import Derived.Maps.AppendAt
import Derived.Deep.AppendLies
namespace Go.Proofs.Ythbhengcinkepaa
open Go.RowKit Lamp

theorem pow_l16 {i : Nat} (h : i < 16) : 2 ^ i < 65536 := Nat.pow_lt_pow_right (n := 16) (by decide) h
theorem shl_1 (j : Nat) (h : j < 16) : wrap64 (2 ^ j) = ((2 ^ j : Nat) : Int) := by
  have h1 := pow_l16 h
  have h2 : (2 : Int) ^ j = ((2 ^ j : Nat) : Int) := by simp
  obtain ⟨m, hm⟩ : ∃ m, 2 ^ j = m := ⟨_, rfl⟩
  rw [hm] at h1 h2 ⊢
  rw [h2]; exact w64 (by omega)
theorem or3 (a b c : Nat) (ha : a < 16) (hb : b < 16) (hc : c < 16) : bits BinOp.or IntKind.i64 (bits BinOp.or IntKind.i64 (wrap64 (2 ^ a)) (wrap64 (2 ^ b))) (wrap64 (2 ^ c)) = ((holesM ((a : Int), (b : Int), (c : Int)) : Nat) : Int) := by
  have h1 := pow_l16 ha
  have h2 := pow_l16 hb
  have h3 := pow_l16 hc
  have h4 := Nat.or_lt_two_pow (n := 16) h1 h2
  rw [shl_1 a ha, shl_1 b hb, shl_1 c hc, i64_or _ _ (by omega) (by omega), i64_or _ _ (by omega) (by omega)]
  rfl
theorem or2 (a b : Nat) (ha : a < 16) (hb : b < 16) : bits BinOp.or IntKind.i64 (wrap64 (2 ^ a)) (wrap64 (2 ^ b)) = ((takenM ((a : Int), (b : Int), 0) : Nat) : Int) := by
  have h1 := pow_l16 ha
  have h2 := pow_l16 hb
  rw [shl_1 a ha, shl_1 b hb, i64_or _ _ (by omega) (by omega)]
  rfl
theorem shl_k (j : Nat) (h : j < 16) : IntKind.i64.wrap ((2 : Int) ^ j) = ((2 ^ j : Nat) : Int) := by
  have h1 := pow_l16 h
  have h2 : (2 : Int) ^ j = ((2 ^ j : Nat) : Int) := by simp
  obtain ⟨m, hm⟩ : ∃ m, 2 ^ j = m := ⟨_, rfl⟩
  rw [hm] at h1 h2 ⊢
  rw [h2]; exact IntWalk.i64_in _ (by omega)
theorem or3k (a b c : Nat) (ha : a < 16) (hb : b < 16) (hc : c < 16) : bits BinOp.or IntKind.i64 (bits BinOp.or IntKind.i64 (IntKind.i64.wrap (2 ^ a)) (IntKind.i64.wrap (2 ^ b))) (IntKind.i64.wrap (2 ^ c)) = ((holesM ((a : Int), (b : Int), (c : Int)) : Nat) : Int) := by
  have h1 := pow_l16 ha
  have h2 := pow_l16 hb
  have h3 := pow_l16 hc
  have h4 := Nat.or_lt_two_pow (n := 16) h1 h2
  rw [shl_k a ha, shl_k b hb, shl_k c hc, i64_or _ _ (by omega) (by omega), i64_or _ _ (by omega) (by omega)]
  rfl
theorem Try.infoPar : (Try.prog.info? 171).map (fun i => (i.zero, i.size, i.bytes)) = some (some (.int .i64 0), 1, 8) := by kernel_rfl

/-- A row of integers of one's own (of elements of type T), in memory from base on. -/
def OwnP (T : TypeId) (w : World) (base : Nat) (v : Value) (zs : List Int) : Prop := w.ownsRow base T 1 v zs.length (zs.map (Value.int .i64))
section
variable {T : TypeId} {w w' : World} {base : Nat} {v : Value} {zs : List Int}
theorem OwnP.nil_ (T : TypeId) (w : World) (base : Nat) : OwnP T w base (.slice none 0 0) [] := ⟨by simp, .inl ⟨rfl, rfl⟩⟩
theorem OwnP.alloc (h : OwnP T w base v zs) (o : Obj) : OwnP T (w.alloc o) base v zs := World.ownsRow.alloc h o
theorem OwnP.drewN (h : OwnP T w base v zs) (n : Nat) : OwnP T (w.drewN n) base v zs := h
theorem OwnP.drew (h : OwnP T w base v zs) : OwnP T w.drew base v zs := h
theorem OwnP.blk (h : OwnP T w base v zs) : ∀ g, v.ownBlock = some g → base ≤ g ∧ g < w.heap.size ∧ ∃ cur, Box w g T cur := by
  intro g hg
  rcases h.2 with ⟨rfl, _⟩ | ⟨g', cap, cur, rfl, hb, hh, _⟩
  · cases hg
  · have : g' = g := by simpa [Value.ownBlock] using hg
    subst this
    exact ⟨hb, Box.lt hh, cur, hh⟩
theorem OwnP.rowA (h : OwnP T w base v zs) : ∃ A k, v = .slice A zs.length k ∧ RowA T w A k zs ∧ ∀ g, A = some ⟨g, 0, none⟩ → base ≤ g := RowA.of_own h
theorem OwnP.turn {X : Nat → Prop} (h : OwnP T w base v zs) (hT : Turn X w w') (hx : ∀ g, v.ownBlock = some g → ¬ X g) : OwnP T w' base v zs := by
  rcases h.2 with ⟨e, hl⟩ | ⟨g, cap, cur, rfl, hb, hh, h2, h3, h4⟩
  · exact ⟨h.1, .inl ⟨e, hl⟩⟩
  · exact ⟨h.1, .inr ⟨g, cap, cur, rfl, hb, Box.turn hh hT (hx g (by simp [Value.ownBlock])), h2, h3, h4⟩⟩
theorem OwnP.below {B : Nat} (h : OwnP T w base v zs) (hb : Below B w w') (hB : ∀ g, v.ownBlock = some g → g < B) : OwnP T w' base v zs := by
  rcases h.2 with ⟨e, hl⟩ | ⟨g, cap, cur, rfl, hb0, hh, h2, h3, h4⟩
  · exact ⟨h.1, .inl ⟨e, hl⟩⟩
  · exact ⟨h.1, .inr ⟨g, cap, cur, rfl, hb0, Box.below hh hb (hB g (by simp [Value.ownBlock])), h2, h3, h4⟩⟩
theorem OwnP.reads (h : OwnP T w base v zs) : ∃ A c, v = .slice A zs.length c ∧ RInts w w.heap.size A zs := by
  obtain ⟨A, k, e, h1, _⟩ := h.rowA
  exact ⟨A, k, e, h1.reads⟩
end

/-- Lines of a board of n holes. -/
def LinesOk (n : Nat) (l : List Tri) : Prop := ∀ e ∈ l, TriOk n e
theorem goodT_at {n : Int} {l : List Tri} {m k : Nat} (h : goodT n l m = true) (hk : k < m) : lineB n (l.getD k (0, 0, 0)) = true := by
  cases h2 : goodT n l (k + 1)
  · rw [goodT_le hk h2] at h; cases h
  · unfold goodT at h2
    simp only [Bool.and_eq_true] at h2
    exact h2.2.1
theorem lineB_ok {n : Nat} {e : Tri} (h : lineB n e = true) : TriOk n e := by
  simp only [lineB, Bool.and_eq_true, decide_eq_true_eq] at h
  obtain ⟨h1, h2, h3, h4, h5, h6, h7⟩ := h
  exact ⟨h1, by omega, h4, h5, by omega, h3, by omega, by omega, by omega⟩
theorem goodT_ok {n : Nat} {l : List Tri} (h : goodT n l l.length = true) : LinesOk n l := fun e he => by
  obtain ⟨i, hi, rfl⟩ := List.getElem_of_mem he
  have := goodT_at h hi
  rw [List.getD_eq_getElem?_getD, List.getElem?_eq_getElem hi] at this
  exact lineB_ok this
/-- The equations of lines. -/
def eqsL (l : List Tri) : List Nat := l.map holesM
theorem TriOk.nat {n : Nat} {j : Tri} (h : TriOk n j) (hn : n ≤ 16) : ∃ a b c : Nat, j = ((a : Int), (b : Int), (c : Int)) ∧ a < 16 ∧ b < 16 ∧ c < 16 := by
  obtain ⟨x, y, z⟩ := j
  obtain ⟨h1, h2, h3, h4, h5, h6, _⟩ := h
  simp only at h1 h2 h3 h4 h5 h6
  refine ⟨x.toNat, y.toNat, z.toNat, ?_, by omega, by omega, by omega⟩
  rw [Int.toNat_of_nonneg h1, Int.toNat_of_nonneg h3, Int.toNat_of_nonneg h5]
theorem eqsL_lt {n : Nat} {l : List Tri} (h : LinesOk n l) (j : Nat) : (eqsL l).getD j 0 < 2 ^ n := by
  unfold eqsL
  rw [List.getD_eq_getElem?_getD, List.getElem?_map]
  cases hj : l[j]? with
  | none => exact Nat.two_pow_pos n
  | some e => exact holesM_lt (h e (List.mem_of_getElem? hj))
theorem eqsL_take (l : List Tri) (k : Nat) (x : Tri) (h : l[k]? = some x) : eqsL (l.take (k + 1)) = eqsL (l.take k) ++ [holesM x] := by
  have h2 := List.getElem?_eq_some_iff.1 h
  unfold eqsL
  rw [List.take_succ_eq_append_getElem h2.1, h2.2, List.map_append]; rfl

theorem reduce_any (A : Option Addr) (k : Nat) (E : List Nat) (n : Nat) (w : World) (hE : RowA 171 w A k (natV E)) (hl : E.length ≤ 1000) (hb : ∀ j, E.getD j 0 < 65536) (hn : n ≤ 16) :
    Calls Try.prog 114 #[.slice A E.length k, .int .i64 n] w fun e w' => ∃ A2 k2, e = .returned (.slice A2 E.length k2) ∧ RInts w' w'.heap.size A2 (redP E n).2 ∧ RInts w' w'.heap.size A (natV (redP E n).1) ∧ Turn (fun b => A = some ⟨b, 0, none⟩) w w' := by
  by_cases h0 : E = []
  · subst h0
    refine (reduce_none A k n w hn).mono ?_
    rintro e w' ⟨rfl, hb2⟩
    have hlen := redP_len [] n
    have e1 : (redP [] n).1 = [] := List.length_eq_zero_iff.1 hlen.1
    have e2 : (redP [] n).2 = [] := List.length_eq_zero_iff.1 hlen.2
    exact ⟨_, _, rfl, by rw [e2]; exact RInts.nil_, by rw [e1]; exact RInts.nil_, (Turn.refl _ w).below hb2 (Nat.le_refl _)⟩
  · obtain ⟨g, rfl, hr⟩ := hE (natV_nil h0)
    refine (reduce_some g k E n w h0 hr hl hb hn).mono ?_
    rintro e w' ⟨rfl, h1, h2, h3⟩
    exact ⟨_, _, rfl, h1.reads, h2.reads, h3.imp fun i _ e => by rw [e]⟩
theorem RInts.getN {w : World} {B : Nat} {A : Option Addr} {E : List Nat} {i : Nat} (h : RInts w B A (natV E)) (hi : i < E.length) : ∃ b o, A = some ⟨b, o, none⟩ ∧ b < B ∧ w.cell? ⟨b, o + i, none⟩ = some (.int .i64 ((E.getD i 0 : Nat) : Int)) := by
  obtain ⟨b, o, x, e, hb, hx, hc⟩ := h.at_ (k := i) (by rw [natV_len]; exact hi)
  rw [natV_get hi] at hx
  cases hx
  exact ⟨b, o, e, hb, hc⟩
theorem RInts.getI {w : World} {B : Nat} {A : Option Addr} {O : List Int} {i : Nat} (h : RInts w B A O) (hi : i < O.length) : ∃ b o, A = some ⟨b, o, none⟩ ∧ b < B ∧ w.cell? ⟨b, o + i, none⟩ = some (.int .i64 (O.getD i 0)) := by
  obtain ⟨b, o, x, e, hb, hx, hc⟩ := h.at_ (k := i) hi
  rw [getD_get hi] at hx
  cases hx
  exact ⟨b, o, e, hb, hc⟩
theorem ownK_lt {O : List Int} (h : ∀ i, 0 ≤ O.getD i 0 → O.getD i 0 < 16) : ∀ k, ownK O k < 65536
  | 0 => by show 0 < 65536; decide
  | k + 1 => by
    unfold ownK
    split
    · rename_i h0
      exact Nat.or_lt_two_pow (n := 16) (ownK_lt h k) (pow_l16 (by have := h k h0; omega))
    · exact ownK_lt h k
theorem ruleK_lt {E : List Nat} {O : List Int} {hole : Nat} (hh : hole < 16) (h : ∀ i, O.getD i 0 < 16) : ∀ k, ruleK E O hole k < 65536
  | 0 => pow_l16 hh
  | k + 1 => by
    unfold ruleK
    split
    · exact Nat.or_lt_two_pow (n := 16) (ruleK_lt hh h k) (pow_l16 (by have := h k; omega))
    · exact ruleK_lt hh h k
theorem basisK_len (E : List Nat) (O : List Int) : ∀ h, (basisK E O h).length ≤ h
  | 0 => by simp [basisK]
  | h + 1 => by
    have := basisK_len E O h
    unfold basisK
    split
    · omega
    · simp; exact this
theorem orw (a x : Nat) (ha : a < 65536) (hx : x < 16) : bits BinOp.or IntKind.i64 (a : Int) (wrap64 (2 ^ x)) = ((a ||| 2 ^ x : Nat) : Int) := by
  have h1 := pow_l16 hx
  rw [shl_1 x hx, i64_or a (2 ^ x) (by omega) (by omega)]
/-- The unknowns that equations own are below 16. -/
theorem own_16 {n : Nat} {E0 E : List Nat} {O : List Int} (H : Ech n E0 n E O) (hn : n ≤ 16) (i : Nat) : O.getD i 0 < 16 := by
  rcases Nat.lt_or_ge i E0.length with hi | hi
  · by_cases hne : O.getD i 0 = -1
    · omega
    · obtain ⟨v, hv, h1, _⟩ := H.own i hi hne
      omega
  · rw [List.getD_eq_getElem?_getD, List.getElem?_eq_none (by rw [H.lenO]; exact hi)]
    decide

set_option maxHeartbeats 4000000 in
/-- The first loop of rules, as a post: the equations stand in memory of our own. -/
theorem rules_any (A : Option Addr) (c n : Nat) (l : List Tri) (w : World) (hr : RTri w w.heap.size A l) (hl : l.length ≤ 40) (hn : n ≤ 16) (hok : LinesOk n l) :
    Calls Try.prog 71 #[.int .i64 n, .slice A l.length c] w fun e w' => ∃ v, e = .returned v ∧ OwnP 3 w' w.heap.size v (natV (rulesL n (eqsL l))) ∧ Below w.heap.size w w' := by
  have HR := Lib.hid hr
  have HK := Lib.hid hok
  clear hr hok
  go_enter Try.func71, Try.ntmps71
  go_wp2_with fail
  go_loopw [5, 19] (fun sv q wr => ∃ (k : Nat) (v : Value), v = sv ∧ q = .int .i64 k ∧ k ≤ l.length ∧ Hid (OwnP 171 wr w.heap.size v (natV (eqsL (l.take k)))) ∧ Hid (Below w.heap.size w wr)) (fun _ q _ => l.length - (intOf q).toNat)
  case atStart => exact ⟨0, _, rfl, rfl, by omega, Lib.hid (OwnP.nil_ _ _ _), Lib.hid (Below.refl _ _)⟩
  case round =>
    obtain ⟨k, v, rfl, rfl, hk, HO1, HB1⟩ := hrel
    have HO := HO1
    have HB := HB1
    clear HO1 HB1
    have hbs := HB.out.size
    by_cases hlt : k < l.length
    · obtain ⟨b, o, x, y, z, hA, hb, hx, hc1, hc2, hc3⟩ := (HR.out.below HB.out).at_ hlt
      subst hA
      obtain ⟨a1, a2, a3, he, ha1, ha2, ha3⟩ := (HK.out _ (List.mem_of_getElem? hx)).nat hn
      cases he
      have HX := Lib.hid hx
      clear hx
      go_upto_region 5 with fail
      obtain ⟨W0, hw0⟩ : ∃ W0, wr.alloc (Obj.cells #[Value.int IntKind.i64 a1, Value.int IntKind.i64 a2, Value.int IntKind.i64 a3] 30) = W0 := ⟨_, rfl⟩
      have hbox : Box W0 wr.heap.size 30 #[Value.int IntKind.i64 a1, Value.int IntKind.i64 a2, Value.int IntKind.i64 a3] := by rw [← hw0]; exact Box.new _ _ _
      have hw0s : W0.heap.size = wr.heap.size + 1 := by rw [← hw0]; simp
      have HB0 := Lib.hid (show Below w.heap.size w W0 by rw [← hw0]; exact HB.out.alloc HB.out.size _)
      have HO0 := Lib.hid (show OwnP 171 W0 w.heap.size v (natV (eqsL (l.take k))) by rw [← hw0]; exact HO.out.alloc _)
      rw [hw0]
      clear hw0 hc1 hc2 hc3
      have x0 := hbox.cell 0
      have x1 := hbox.cell 1
      have x2 := hbox.cell 2
      simp only [List.getElem?_toArray, List.getElem?_cons_zero, List.getElem?_cons_succ] at x0 x1 x2
      have HX0 := Lib.hid x0
      have HX1 := Lib.hid x1
      have HX2 := Lib.hid x2
      have HZ := Lib.hid hw0s
      have HBX := Lib.hid hbox
      have hltx : wr.heap.size < W0.heap.size := by omega
      have hp1 : (0 : Int) ≤ (a1 : Int) := by omega
      have hp2 : (0 : Int) ≤ (a2 : Int) := by omega
      have hp3 : (0 : Int) ≤ (a3 : Int) := by omega
      have HM := Lib.hid (or3k a1 a2 a3 ha1 ha2 ha3)
      have HE := Lib.hid (eqsL_take l k _ HX.out)
      have HLn : (natV (eqsL (l.take k))).length = k := by simp [natV, eqsL]; omega
      have HLN := Lib.hid HLn
      clear hw0s x0 x1 x2 hbox HLn
      obtain ⟨i0, hi, hz0, hz1, hz2⟩ := info_parts Try.infoPar
      refine wp_region_held_drew (S := fun w' => w'.cell? ⟨wr.heap.size, 0, none⟩ = some (.int .i64 a1) ∧ w'.cell? ⟨wr.heap.size, 1, none⟩ = some (.int .i64 a2) ∧ w'.cell? ⟨wr.heap.size, 2, none⟩ = some (.int .i64 a3)) (by kernel_rfl) ⟨HX0.out, HX1.out, HX2.out⟩ (fun hHeld => ?_)
      refine wpAnyH_take (i := 0) (v := ?_) rfl (by kernel_rfl) (by kernel_rfl) (by kernel_rfl) (fun _ _ _ h => h) (Or.inl ⟨by rfl, ?_⟩) (by assumption) ?_
      rotate_left
      · (intro w hSw; (try dsimp only at hSw); go_simp <;> (with_reducible rfl))
      try simp only [Act.put, List.setIfInBounds_toArray, List.set_cons_zero, List.set_cons_succ, List.getElem_toArray, List.getElem_cons_zero]
      refine wpAnyH_take (i := 1) (v := ?_) rfl (by kernel_rfl) (by kernel_rfl) (by kernel_rfl) (fun _ _ _ h => h) (Or.inl ⟨by rfl, ?_⟩) (by assumption) ?_
      rotate_left
      · (intro w hSw; (try dsimp only at hSw); go_simp <;> (with_reducible rfl))
      try simp only [Act.put, List.setIfInBounds_toArray, List.set_cons_zero, List.set_cons_succ, List.getElem_toArray, List.getElem_cons_zero, List.getElem_cons_succ]
      refine wpAnyH_take (i := 2) (v := ?_) rfl (by kernel_rfl) (by kernel_rfl) (by kernel_rfl) (fun _ _ _ h => h) (Or.inl ⟨by rfl, ?_⟩) (by assumption) ?_
      rotate_left
      · (intro w hSw; (try dsimp only at hSw); go_simp <;> (with_reducible rfl))
      try simp only [Act.put, List.setIfInBounds_toArray, List.set_cons_zero, List.set_cons_succ, List.getElem_toArray, List.getElem_cons_zero, List.getElem_cons_succ]
      refine wpAnyH_take (i := 3) (v := ?_) rfl (by kernel_rfl) (by kernel_rfl) (by kernel_rfl) (fun _ _ _ h => h) (Or.inl ⟨by rfl, ?_⟩) (by assumption) ?_
      rotate_left
      · (intro w hSw; (try dsimp only at hSw); go_simp <;> (with_reducible rfl))
      try simp only [Act.put, List.setIfInBounds_toArray, List.set_cons_zero, List.set_cons_succ, List.getElem_toArray, List.getElem_cons_zero, List.getElem_cons_succ]
      refine wpAnyH_take (i := 4) (v := ?_) rfl (by kernel_rfl) (by kernel_rfl) (by kernel_rfl) (fun _ _ _ h => h) (Or.inl ⟨by rfl, ?_⟩) (by assumption) ?_
      rotate_left
      · (intro w hSw; (try dsimp only at hSw); go_simp <;> (with_reducible rfl))
      try simp only [Act.put, List.setIfInBounds_toArray, List.set_cons_zero, List.set_cons_succ, List.getElem_toArray, List.getElem_cons_zero, List.getElem_cons_succ]
      refine wpAnyH_take (i := 5) (v := ?_) rfl (by kernel_rfl) (by kernel_rfl) (by kernel_rfl) (fun _ _ _ h => h) (Or.inl ⟨by rfl, ?_⟩) (by assumption) ?_
      rotate_left
      · (intro w hSw; (try dsimp only at hSw); go_simp <;> (with_reducible rfl))
      try simp only [Act.put, List.setIfInBounds_toArray, List.set_cons_zero, List.set_cons_succ, List.getElem_toArray, List.getElem_cons_zero, List.getElem_cons_succ]
      refine wpAnyH_take (i := 6) (v := ?_) rfl (by kernel_rfl) (by kernel_rfl) (by kernel_rfl) (fun _ _ _ h => h) (Or.inl ⟨by rfl, ?_⟩) (by assumption) ?_
      rotate_left
      · (intro w hSw; (try dsimp only at hSw); go_simp <;> (with_reducible rfl))
      try simp only [Act.put, List.setIfInBounds_toArray, List.set_cons_zero, List.set_cons_succ, List.getElem_toArray, List.getElem_cons_zero, List.getElem_cons_succ]
      refine wpAnyH_take (i := 7) (v := ?_) rfl (by kernel_rfl) (by kernel_rfl) (by kernel_rfl) (fun _ _ _ h => h) (Or.inl ⟨by rfl, ?_⟩) (by assumption) ?_
      rotate_left
      · (intro w hSw; (try dsimp only at hSw); go_simp <;> (with_reducible rfl))
      try simp only [Act.put, List.setIfInBounds_toArray, List.set_cons_zero, List.set_cons_succ, List.getElem_toArray, List.getElem_cons_zero, List.getElem_cons_succ]
      refine wpAnyH_take (i := 8) (v := ?_) rfl (by kernel_rfl) (by kernel_rfl) (by kernel_rfl) (fun _ _ _ h => h) (Or.inl ⟨by rfl, ?_⟩) (by assumption) ?_
      rotate_left
      · (intro w hSw; (try dsimp only at hSw); go_simp <;> (with_reducible rfl))
      try simp only [Act.put, List.setIfInBounds_toArray, List.set_cons_zero, List.set_cons_succ, List.getElem_toArray, List.getElem_cons_zero, List.getElem_cons_succ]
      refine wpAnyH_take (i := 9) (v := ?_) rfl (by kernel_rfl) (by kernel_rfl) (by kernel_rfl) (fun _ _ _ h => h) (Or.inl ⟨by rfl, ?_⟩) (by assumption) ?_
      rotate_left
      · (intro w hSw; (try dsimp only at hSw); go_simp <;> (with_reducible rfl))
      try simp only [Act.put, List.setIfInBounds_toArray, List.set_cons_zero, List.set_cons_succ, List.getElem_toArray, List.getElem_cons_zero, List.getElem_cons_succ]
      refine wpAnyH_take (i := 10) (v := ?_) rfl (by kernel_rfl) (by kernel_rfl) (by kernel_rfl) (fun _ _ _ h => h) (Or.inl ⟨by rfl, ?_⟩) (by assumption) ?_
      rotate_left
      · (intro w hSw; (try dsimp only at hSw); go_simp <;> (with_reducible rfl))
      try simp only [Act.put, List.setIfInBounds_toArray, List.set_cons_zero, List.set_cons_succ, List.getElem_toArray, List.getElem_cons_zero, List.getElem_cons_succ]
      refine wpAnyH_take (i := 11) (v := ?_) rfl (by kernel_rfl) (by kernel_rfl) (by kernel_rfl) (fun _ _ _ h => h) (Or.inl ⟨by rfl, ?_⟩) (by assumption) ?_
      rotate_left
      · (intro w hSw; (try dsimp only at hSw); go_simp <;> (with_reducible rfl))
      try simp only [Act.put, List.setIfInBounds_toArray, List.set_cons_zero, List.set_cons_succ, List.getElem_toArray, List.getElem_cons_zero, List.getElem_cons_succ]
      refine wpAnyH_ready (rs := [12]) (by kernel_rfl) (by simp) ?_
      refine AllReadyH.cons rfl (fun K hK => ?_) AllReadyH.nil
      go_simp
      refine hK.out _ _ ?_ (fun hHeld => ?_)
      · exact ⟨((Below.refl W0.heap.size W0).alloc (Nat.le_refl _) _ |>.cell (p := ⟨wr.heap.size, 0, none⟩) hltx).trans HX0.out, ((Below.refl W0.heap.size W0).alloc (Nat.le_refl _) _ |>.cell (p := ⟨wr.heap.size, 1, none⟩) hltx).trans HX1.out, ((Below.refl W0.heap.size W0).alloc (Nat.le_refl _) _ |>.cell (p := ⟨wr.heap.size, 2, none⟩) hltx).trans HX2.out⟩
      clear hK K
      try simp only [Act.put, List.setIfInBounds_toArray, List.set_cons_zero, List.set_cons_succ, List.getElem_toArray, List.getElem_cons_zero, List.getElem_cons_succ]
      rw [HM.out] at hHeld ⊢
      obtain ⟨W1, hW1⟩ : ∃ W1, (W0.alloc (Obj.cells #[Value.int IntKind.i64 ((holesM ((a1 : Int), (a2 : Int), (a3 : Int)) : Nat) : Int)] 171)).drew = W1 := ⟨_, rfl⟩
      have HN := Lib.hid (show W1.heap[W0.heap.size]? = some (.cells #[Value.int IntKind.i64 ((holesM ((a1 : Int), (a2 : Int), (a3 : Int)) : Nat) : Int)] 171 (0, 0)) by rw [← hW1]; exact heap_alloc_new W0 _)
      have HO1 := Lib.hid (show OwnP 171 W1 w.heap.size v (natV (eqsL (l.take k))) by rw [← hW1]; exact (HO0.out.alloc _).drew)
      have HBx1 := Lib.hid (show Box W1 wr.heap.size 30 #[Value.int IntKind.i64 a1, Value.int IntKind.i64 a2, Value.int IntKind.i64 a3] by rw [← hW1]; exact (HBX.out.alloc _).drewN 1)
      have HB1 := Lib.hid (show Below w.heap.size w W1 by rw [← hW1]; exact belowT_drewN (HB0.out.alloc (HB0.out.size) _) 1)
      have hsz1 : W1.heap.size = W0.heap.size + 1 := by rw [← hW1]; simp
      rw [hW1] at hHeld ⊢
      clear hW1
      have ho := HO1.out
      unfold OwnP at ho
      rw [HLN.out] at ho
      have HO2 := Lib.hid ho
      clear ho
      refine wpAnyH_ready (rs := [13]) (by kernel_rfl) (by simp) ?_
      refine AllReadyH.cons rfl (fun K hK => ?_) AllReadyH.nil
      refine step_append_lies W1 rfl _ _ 170 rfl w.heap.size 171 i0 (.int .i64 0) 1 8 Try.underlying170 hi hz0 hz1 hz2 rfl (by decide) v k _ rfl HO2.out ⟨W0.heap.size, 0, none⟩ 1 1 [.int .i64 ((holesM ((a1 : Int), (a2 : Int), (a3 : Int)) : Nat) : Int)] rfl rfl (World.news_of_block HN.out) (by simp [Value.oneCell']) (by decide) (by unfold maxLen; omega) (by omega) (by have := HB1.out.size; omega) _ rfl ?_
      intro g9 c9 w9 hown9 hg9 _ _
      have hblk := HO1.out.blk
      have HO9 := Lib.hid (show OwnP 171 w9 w.heap.size (.slice (some ⟨g9, 0, none⟩) (k + 1) c9) (natV (eqsL (l.take (k + 1)))) by
        rw [HE.out]
        unfold OwnP natV
        unfold natV at hown9 HLN
        rw [List.map_append, List.length_append, List.map_append]
        rw [show (List.map (fun (x : Nat) => (x : Int)) (eqsL (List.take k l))).length = k from HLN.out]
        exact hown9)
      have HB9 := Lib.hid (show Below w.heap.size w w9 from HB1.out.grown hg9 HB1.out.size (fun j hj => (hblk j hj).1))
      have hbx9 : Box w9 wr.heap.size 30 #[Value.int IntKind.i64 a1, Value.int IntKind.i64 a2, Value.int IntKind.i64 a3] := HBx1.out.grown hg9 (fun e => by
        obtain ⟨_, _, cur, hcur⟩ := hblk _ e.symm
        exact HBx1.out.ne hcur (by decide) rfl)
      refine hK.out _ _ ?_ (fun hHeld => ?_)
      · exact ⟨hbx9.cell 0, hbx9.cell 1, hbx9.cell 2⟩
      clear hK K hown9 hg9 hblk hbx9
      try simp only [Act.put, List.setIfInBounds_toArray, List.set_cons_zero, List.set_cons_succ, List.getElem_toArray, List.getElem_cons_zero, List.getElem_cons_succ]
      refine wpAnyH_take (i := 14) (v := ?_) rfl (by kernel_rfl) (by kernel_rfl) (by kernel_rfl) (fun _ _ _ h => h) (Or.inl ⟨by rfl, ?_⟩) (by assumption) ?_
      rotate_left
      · (intro w hSw; (try dsimp only at hSw); go_simp <;> (with_reducible rfl))
      try simp only [Act.put, List.setIfInBounds_toArray, List.set_cons_zero, List.set_cons_succ, List.getElem_toArray, List.getElem_cons_zero, List.getElem_cons_succ]
      refine wpAnyH_done (by kernel_rfl) ?_ _
      go_wp2_with fail
      go_roundw
      case rel => exact ⟨k + 1, _, rfl, by go_num, by omega, HO9, HB9⟩
      case measure => simp [intOf]; omega
    · obtain rfl : k = l.length := by omega
      have hTL := HO.out
      rw [List.take_length] at hTL
      obtain ⟨A1, k1, hv, hra, hbase⟩ := hTL.rowA
      subst hv
      have hEl : (natV (eqsL l)).length = l.length := by simp [natV, eqsL]
      have hel : (eqsL l).length = l.length := by simp [eqsL]
      rw [hEl]
      have H := Ech.all_ (eqsL_lt HK.out) n
      have hlen := redP_len (eqsL l) n
      have hlt16 : ∀ j, (eqsL l).getD j 0 < 65536 := fun j => Nat.lt_of_lt_of_le (eqsL_lt HK.out j) (Nat.pow_le_pow_right (n := 2) (by decide) hn)
      have hrlt := redP_lt hlt16 n
      have HRD := Lib.hid (reduce_any A1 k1 (eqsL l) n wr hra (by omega) hlt16 hn)
      rw [hel] at HRD hlen
      have HBa := Lib.hid hbase
      obtain ⟨R, hR⟩ : ∃ R, (redP (eqsL l) n).1 = R := ⟨_, rfl⟩
      obtain ⟨O, hO⟩ : ∃ O, (redP (eqsL l) n).2 = O := ⟨_, rfl⟩
      have HRES := Lib.hid (show rulesL n (eqsL l) = basisK R O n by unfold rulesL; rw [hR, hO])
      rw [hR, hO] at HRD H hlen
      rw [hR] at hrlt
      have HH := Lib.hid H
      have HL1 := hlen.1
      have HLl := Lib.hid hlen
      have HLT := Lib.hid hrlt
      have HO16 := Lib.hid (own_16 H hn)
      clear hTL hra hbase hEl hel hlen hlt16 hrlt hR hO H HO
      go_wp2_with fail
      refine HRD.out.mono ?_
      rintro e w1 ⟨A2, k2, rfl, hro, hre, hT1⟩
      have HB1 := Lib.hid (show Below w.heap.size w w1 from HB.out.trans (hT1.toBelow HB.out.size (fun i hi e => by have := HBa.out i e; omega)))
      have HRO := Lib.hid hro
      have HRE := Lib.hid hre
      clear hro hre hT1 HRD HB HBa
      go_wp2_with fail
      go_loop [9, 43] (fun ov q => ∃ i : Nat, q = .int .i64 i ∧ i ≤ l.length ∧ ov = .int .i64 ((ownK O i : Nat) : Int)) (fun _ q => l.length - (intOf q).toNat)
      case atStart => exact ⟨0, rfl, by omega, rfl⟩
      case round =>
        obtain ⟨i, rfl, hi, rfl⟩ := hrel
        by_cases hil : i < l.length
        · obtain ⟨b, o, hA, hb, hc⟩ := HRO.out.getI (i := i) (by rw [HLl.out.2]; exact hil)
          subst hA
          have hz16 := HO16.out i
          have HD := Lib.hid (show ownK O (i + 1) = if 0 ≤ O.getD i 0 then ownK O i ||| 2 ^ (O.getD i 0).toNat else ownK O i from rfl)
          obtain ⟨z, hz⟩ : ∃ z, O.getD i 0 = z := ⟨_, rfl⟩
          rw [hz] at hc hz16 HD
          have HOL := Lib.hid (ownK_lt (O := O) (fun i _ => HO16.out i) i)
          clear hz
          by_cases h0 : 0 ≤ z
          · obtain ⟨x, rfl⟩ : ∃ x : Nat, z = (x : Int) := ⟨z.toNat, by omega⟩
            have hx16 : x < 16 := by omega
            have HW := Lib.hid (orw (ownK O i) x HOL.out hx16)
            have hx0 : (0 : Int) ≤ (x : Int) := by omega
            go_wp2_with fail
            go_round
            case rel => exact ⟨i + 1, by go_num, by omega, val_int (by rw [HD.out, if_pos h0]; exact HW.out)⟩
            case measure => simp [intOf]; omega
          · go_wp2_with fail
            go_round
            case rel => exact ⟨i + 1, by go_num, by omega, val_int (by rw [HD.out, if_neg h0])⟩
            case measure => simp [intOf]; omega
        · obtain rfl : i = l.length := by omega
          have HOW := Lib.hid (show ownK O l.length = ownK O R.length by rw [HL1])
          have HOL := Lib.hid (ownK_lt (O := O) (fun i _ => HO16.out i) l.length)
          obtain ⟨ow, how⟩ : ∃ ow, ownK O l.length = ow := ⟨_, rfl⟩
          rw [how] at HOW HOL ⊢
          clear how
          go_wp2_with fail
          go_loopw [12, 55] (fun bv q wx => ∃ (h : Nat) (v2 : Value), v2 = bv ∧ q = .int .i64 h ∧ h ≤ n ∧ Hid (OwnP 3 wx w.heap.size v2 (natV (basisK R O h))) ∧ Hid (∀ g, v2.ownBlock = some g → w1.heap.size ≤ g) ∧ Hid (Below w1.heap.size w1 wx)) (fun _ q _ => n - (intOf q).toNat)
          case atStart => exact ⟨0, _, rfl, rfl, by omega, Lib.hid (OwnP.nil_ _ _ _), Lib.hid (fun g e => by cases e), Lib.hid (Below.refl _ _)⟩
          case round =>
            obtain ⟨h, v2, rfl, rfl, hh, HP1, HG1, HX1⟩ := hrel
            have HP := HP1
            have HG := HG1
            have HX := HX1
            clear HP1 HG1 HX1
            by_cases hhn : h < n
            · have hh16 : h < 16 := by omega
              have HBI := Lib.hid (bit_test ow h (by have := HOL.out; omega))
              cases hbit : ow.testBit h
              · have HBT := Lib.hid hbit
                have HBD := Lib.hid (show basisK R O (h + 1) = basisK R O h ++ [ruleK R O h l.length] by
                  rw [basisK, ← HOW.out, HBT.out, if_neg (by simp), HL1])
                have HRB := Lib.hid (fun i => ruleK_lt (E := R) (O := O) hh16 HO16.out i)
                have HS1 := Lib.hid (shl_1 h hh16)
                have htest : (bits BinOp.and IntKind.i64 ((ow : Int) / 2 ^ min h 64) 1 == 1) = false := by rw [HBI.out]; exact hbit
                have htest2 : (bits BinOp.and IntKind.i64 ((ow : Int) / 2 ^ h) 1 == 1) = false := by rw [Nat.min_eq_left (by omega : h ≤ 64)] at htest; exact htest
                clear hbit
                go_upto_region 22 with fail
                go_loop [14, 67] (fun rv q => ∃ i : Nat, q = .int .i64 i ∧ i ≤ l.length ∧ rv = .int .i64 ((ruleK R O h i : Nat) : Int)) (fun _ q => l.length - (intOf q).toNat)
                case atStart => exact ⟨0, rfl, by omega, val_int (by rw [HS1.out]; rfl)⟩
                case round =>
                  obtain ⟨i, rfl, hi, rfl⟩ := hrel
                  by_cases hil : i < l.length
                  · obtain ⟨b, o, hA, hb, hc⟩ := (HRO.out.below HX.out).getI (i := i) (by rw [HLl.out.2]; exact hil)
                    subst hA
                    obtain ⟨b2, o2, hA2, hb2, hc2⟩ := (HRE.out.below HX.out).getN (i := i) (by rw [HLl.out.1]; exact hil)
                    subst hA2
                    have HD := Lib.hid (show ruleK R O h (i + 1) = if (R.getD i 0).testBit h = true then ruleK R O h i ||| 2 ^ (O.getD i 0).toNat else ruleK R O h i from rfl)
                    have HXB := Lib.hid (HLT.out i)
                    have HOS := Lib.hid (fun hb3 => HH.out.owns hhn hb3 (by rw [← HOW.out]; exact HBT.out) (i := i))
                    obtain ⟨z, hz⟩ : ∃ z, O.getD i 0 = z := ⟨_, rfl⟩
                    obtain ⟨y, hy⟩ : ∃ y, R.getD i 0 = y := ⟨_, rfl⟩
                    rw [hz] at hc HD HOS
                    rw [hy] at hc2 HD HXB HOS
                    clear hz hy
                    have HRI := Lib.hid (HRB.out i)
                    cases hyb : y.testBit h
                    · have HYB := Lib.hid hyb
                      clear hyb
                      go_wp2_with (go_at_call 115; refine (has_of _ HXB.out HYB.out).mono ?_; rintro e w' ⟨rfl, rfl⟩)
                      go_round
                      case rel => exact ⟨i + 1, by go_num, by omega, val_int (by rw [HD.out, HYB.out, if_neg (by simp)])⟩
                      case measure => simp [intOf]; omega
                    · have HYB := Lib.hid hyb
                      clear hyb
                      obtain ⟨_, x, hxh, hzx, _⟩ := HOS.out HYB.out
                      subst hzx
                      have hx16 : x < 16 := by omega
                      have HW := Lib.hid (orw (ruleK R O h i) x HRI.out hx16)
                      have hx0 : (0 : Int) ≤ (x : Int) := by omega
                      clear HOS
                      go_wp2_with (go_at_call 115; refine (has_of _ HXB.out HYB.out).mono ?_; rintro e w' ⟨rfl, rfl⟩)
                      go_round
                      case rel => exact ⟨i + 1, by go_num, by omega, val_int (by rw [HD.out, HYB.out, if_pos rfl]; exact HW.out)⟩
                      case measure => simp [intOf]; omega
                  · obtain rfl : i = l.length := by omega
                    have hbl := basisK_len R O h
                    have ho := HP.out
                    unfold OwnP at ho
                    rw [natV_len] at ho
                    have HP2 := Lib.hid ho
                    obtain ⟨r, hr⟩ : ∃ r, ruleK R O h l.length = r := ⟨_, rfl⟩
                    rw [hr] at HBD ⊢
                    obtain ⟨i0, hi0, hz0, hz1, hz2⟩ := info_parts (show (Try.prog.info? 3).map (fun i => (i.zero, i.size, i.bytes)) = some (some (.int .i64 0), 1, 8) from by kernel_rfl)
                    have HN := Lib.hid (World.news_of_block (w := wr.alloc (Obj.cells #[Value.int .i64 (r : Int)] 3)) (cs := #[Value.int .i64 (r : Int)]) (t := 3) (fr := (0, 0)) (heap_alloc_new wr _))
                    have hwx := HX.out.size
                    have hw1 := HB1.out.size
                    clear ho hr
                    go_wp2_with (at_builtin; refine wpList_append_own_at _ rfl _ _ 47 rfl w.heap.size 3 i0 (.int .i64 0) 1 8 Try.underlying47 hi0 hz0 hz1 hz2 rfl (by decide) _ _ _ rfl (World.ownsRow.alloc HP2.out _) ⟨wr.heap.size, 0, none⟩ 1 1 [.int .i64 (r : Int)] rfl rfl HN.out (by simp [Value.oneCell']) (by unfold maxLen; omega) (by omega) (by simp; omega) ?_; intro v9 w9 hown9 hg9 _ hor9)
                    have hblk := HP.out.blk
                    have HP9 := Lib.hid (show OwnP 3 w9 w.heap.size v9 (natV (basisK R O (h + 1))) by
                      rw [HBD.out]
                      unfold OwnP
                      rw [natV_len, List.length_append, natV, List.map_append, List.map_append]
                      exact hown9)
                    have HX9 := Lib.hid (show Below w1.heap.size w1 w9 from (HX.out.alloc HX.out.size _).grown hg9 (by simp; omega) (fun j hj => HG.out j hj))
                    have HG9 := Lib.hid (show ∀ g, v9.ownBlock = some g → w1.heap.size ≤ g from fun g e => by
                      rcases hor9 with h1 | h1
                      · rw [h1] at e; exact HG.out g e
                      · rw [h1] at e; injection e with e; simp at e; omega)
                    clear hown9 hg9 hblk hor9
                    go_roundw
                    case rel => exact ⟨h + 1, v9, rfl, by go_num, by omega, HP9, HG9, HX9⟩
                    case measure => simp [intOf]; omega
              · have HBT := Lib.hid hbit
                have HBD := Lib.hid (show basisK R O (h + 1) = basisK R O h by
                  rw [basisK, ← HOW.out, HBT.out, if_pos rfl])
                have htest : (bits BinOp.and IntKind.i64 ((ow : Int) / 2 ^ min h 64) 1 == 1) = true := by rw [HBI.out]; exact hbit
                have htest2 : (bits BinOp.and IntKind.i64 ((ow : Int) / 2 ^ h) 1 == 1) = true := by rw [Nat.min_eq_left (by omega : h ≤ 64)] at htest; exact htest
                clear hbit
                go_wp2_with fail
                go_roundw
                case rel => exact ⟨h + 1, v2, rfl, by go_num, by omega, by rw [HBD.out]; exact HP, HG, HX⟩
                case measure => simp [intOf]; omega
            · obtain rfl : h = n := by omega
              go_wp2_with fail
              go_ret
              exact ⟨v2, rfl, by rw [HRES.out]; exact HP.out, HB1.out.trans (HX.out.mono HB1.out.size)⟩
end Go.Proofs.Ythbhengcinkepaa
