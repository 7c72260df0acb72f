/- Polynomials of package light: a list without the zeros at its end. -/
import Derived.Test.YtpdgjjpfahobaaaLig1
import Derived.Test.YtpdgjjpfahobaaaBoxes
import Derived.Laws.MakeOwn
import Derived.Laws.CopyRow
namespace Go.Proofs.Ytpdgjjpfahobaaa
open Go.RowKit Lamp

/-- Bytes as values. -/
def u8V (l : List Nat) : List Value := l.map fun (x : Nat) => Value.int .u8 (x : Int)
def pCells (l : List Nat) : Array Value := (u8V l).toArray
def RU8 (w : World) (B : Nat) (A : Option Addr) (l : List Nat) : Prop := Lies w B A (u8V l)
theorem u8V_len (l : List Nat) : (u8V l).length = l.length := by simp [u8V]
theorem pCells_size (l : List Nat) : (pCells l).size = l.length := by simp [pCells, u8V]
theorem pCells_at (l : List Nat) (k : Nat) (h : k < l.length) : (pCells l)[k]? = some (.int .u8 (l.getD k 0 : Nat)) := by
  simp [pCells, u8V, List.getElem?_eq_getElem h]
theorem pCells_set (l : List Nat) (i v : Nat) : (pCells l).setIfInBounds i (.int .u8 (v : Nat)) = pCells (l.set i v) := by
  unfold pCells u8V
  rw [List.setIfInBounds_toArray, List.map_set]
theorem RU8.at_ {w : World} {B : Nat} {A : Option Addr} {l : List Nat} {k : Nat} (h : RU8 w B A l) (hk : k < l.length) : ∃ b o, A = some ⟨b, o, none⟩ ∧ b < B ∧ w.cell? ⟨b, o + k, none⟩ = some (.int .u8 (l.getD k 0 : Nat)) := by
  obtain ⟨b, o, u, e, hb, hu, hc⟩ := Lies.at_ (k := k) h (by rw [u8V_len]; exact hk)
  refine ⟨b, o, e, hb, ?_⟩
  rw [hc]
  simp only [u8V, List.getElem?_map, List.getElem?_eq_getElem hk, Option.map_some] at hu
  rw [← hu, List.getD_eq_getElem?_getD, List.getElem?_eq_getElem hk]; rfl
theorem RU8.of_box {w : World} {g : Nat} {l : List Nat} (h : Box w g 5 (pCells l)) (m : Nat) : RU8 w w.heap.size (some ⟨g, 0, none⟩) (l.take m) := fun j u hu => by
  refine ⟨g, 0, rfl, h.lt, ?_⟩
  rw [Nat.zero_add, h.cell j]
  simp only [u8V, List.getElem?_map, List.getElem?_take] at hu
  split at hu
  · simp only [pCells, u8V, List.getElem?_toArray, List.getElem?_map]; exact hu
  · simp at hu

/-- How long a list is without the zeros at its end. -/
def cutN (l : List Nat) : Nat → Nat
  | 0 => 0
  | n + 1 => if l.getD n 0 = 0 then cutN l n else n + 1
def cutL (l : List Nat) : List Nat := l.take (cutN l l.length)
theorem cutN_le (l : List Nat) (n : Nat) : cutN l n ≤ n := by
  induction n with
  | zero => exact Nat.le_refl _
  | succ n ih => unfold cutN; split <;> omega

theorem make_u8 (T : TypeId) (hT : Try.prog.underlying T = some (.slice 5)) (n : Nat) (hn : n ≤ 1000000) (w : World) :
    (Instr.makeSlice T (.int .i64 n) (.int .i64 n)).run Try.prog w = .ok (.slice (some ⟨w.heap.size, 0, none⟩) n n) (w.alloc (.cells (pCells (List.replicate n 0)) 5)) := by
  have hI : (Try.prog.info? 5).map (fun i => (i.zero, i.size, i.bytes)) = some (some (.int .u8 0), 1, 1) := by kernel_rfl
  obtain ⟨i0, hi, hz0, hz1, hz2⟩ := info_parts hI
  have h1 := run_make (P := Try.prog) w T 5 i0 (.int .u8 0) hT hi hz0 .i64 .i64 n n (by omega) (by omega) (by rw [hz2]; omega) (by omega)
  rw [hz1] at h1
  have h2 : madeCells (Value.int .u8 0).cells (n * 1) = pCells (List.replicate n 0) := by
    apply Array.ext_getElem?
    intro j
    by_cases hj : j < n
    · simp [madeCells, Value.cells, pCells, u8V, Nat.mod_one, hj]
    · simp [madeCells, Value.cells, pCells, u8V, Nat.mod_one, hj]
  rw [show ((n : Int)).toNat = n from rfl, h2] at h1
  simpa using h1
theorem u8_size1 : (Try.prog.info? 5).map (·.size) = some 1 := by kernel_rfl
theorem u8_one (l : List Nat) : ∀ v ∈ u8V l, v.oneCell' = true := by
  intro v hv
  obtain ⟨x, _, rfl⟩ := List.mem_map.1 hv
  rfl
theorem below_setRowP {B : Nat} {a w : World} (h : Below B a w) {g : Nat} (hg : B ≤ g) (cs : Array Value) : Below B a (w.setRow g cs) := by
  refine ⟨h.os, h.tape, h.output, by rw [size_setRow]; exact h.size, fun i hi => ?_⟩
  rw [← h.block i hi]
  simp only [World.setRow, Array.getElem?_modify]
  rw [if_neg (by omega)]
/-- Copying bytes to the head of a row of one's own. -/
theorem copy_u8 (dT sT : TypeId) (hT : Try.prog.underlying dT = some (.slice 5)) (g m c1 c2 b o : Nat) (l : List Nat) (W : World) (hg : Box W g 5 (pCells (List.replicate m 0))) (hm : l.length ≤ m) (hr : RU8 W W.heap.size (some ⟨b, o, none⟩) l) :
    (Builtin.copy_ #[dT, sT] 3 #[.slice (some ⟨g, 0, none⟩) m c1, .slice (some ⟨b, o, none⟩) l.length c2]).run Try.prog W = .ok (.int .i64 (l.length : Nat)) (W.setRow g (pCells (l ++ List.replicate (m - l.length) 0))) := by
  have h1 := run_copy_row (P := Try.prog) W dT sT 3 5 g 0 m c1 ⟨b, o, none⟩ l.length c2 (pCells (List.replicate m 0)) 5 (u8V l) hT u8_size1 hg (by rw [u8V_len]; exact (Nat.min_eq_left hm).symm) (fun j u hu => by
    obtain ⟨b', o', e, _, hc⟩ := hr j u hu
    cases e
    have e : (⟨b, o, none⟩ : Addr).add j = ⟨b, o + j, none⟩ := by cases j <;> simp [Addr.add]
    rw [e]; exact hc) (by rw [u8V_len, pCells_size, List.length_replicate]; omega) (u8_one l)
  rw [h1, u8V_len]
  have h2 : ((pCells (List.replicate m 0)).toList.take 0 ++ u8V l ++ (pCells (List.replicate m 0)).toList.drop (0 + l.length)).toArray = pCells (l ++ List.replicate (m - l.length) 0) := by
    simp [pCells, u8V]
  rw [h2]
  rfl

set_option maxRecDepth 100000 in
set_option maxHeartbeats 2000000 in
theorem cut_any (b o c : Nat) (l : List Nat) (w : World) (hr : RU8 w w.heap.size (some ⟨b, o, none⟩) l) (hl : l.length ≤ 1000000) :
    Calls Try.prog 127 #[.slice (some ⟨b, o, none⟩) l.length c] w fun e w' => e = .returned (.slice (some ⟨w.heap.size, 0, none⟩) (cutN l l.length) (cutN l l.length)) ∧ RU8 w' w'.heap.size (some ⟨w.heap.size, 0, none⟩) (cutL l) ∧ Below w.heap.size w w' := by
  have hmk := make_u8 76 Try.underlying76 l.length hl
  have hni : (0 : Int) ≤ (l.length : Int) := by omega
  have hb0 : Below w.heap.size w (w.alloc (.cells (pCells (List.replicate l.length 0)) 5)) := (Below.refl _ w).alloc (Nat.le_refl _) _
  have hcp := copy_u8 76 76 Try.underlying76 w.heap.size l.length l.length c b o l _ (Box.new w _ _) (Nat.le_refl _) (Lies.more (Lies.below hr hb0) hb0.size)
  rw [Nat.sub_self, List.replicate_zero, List.append_nil] at hcp
  obtain ⟨w2, hw2⟩ : ∃ w2, (w.alloc (.cells (pCells (List.replicate l.length 0)) 5)).setRow w.heap.size (pCells l) = w2 := ⟨_, rfl⟩
  have HX := Lib.hid (show Box w2 w.heap.size 5 (pCells l) by
    rw [← hw2]; exact setRow_heap _ _ _ _ _ _ (Box.new w _ _))
  have HB := Lib.hid (show Below w.heap.size w w2 by rw [← hw2]; exact below_setRowP hb0 (Nat.le_refl _) _)
  rw [hw2] at hcp
  clear hw2 hr hb0
  go_enter Try.func127, Try.ntmps127
  go_wp2_with fail
  clear hcp hmk
  go_loop [5] (fun v => ∃ k : Nat, v = .int .i64 k ∧ k ≤ l.length ∧ Hid (cutN l k = cutN l l.length)) (fun v => (intOf v).toNat)
  case atStart => exact ⟨l.length, rfl, Nat.le_refl _, Lib.hid rfl⟩
  case round =>
    obtain ⟨k, rfl, hk, HC1⟩ := hrel
    have HC := HC1
    clear HC1
    cases k with
    | zero =>
      go_wp2_with fail
      go_ret
      have hz : cutN l l.length = 0 := HC.out.symm
      refine ⟨by rw [hz]; rfl, ?_, HB.out⟩
      unfold cutL
      exact RU8.of_box HX.out _
    | succ k =>
      obtain ⟨x, hx⟩ : ∃ x, l.getD k 0 = x := ⟨_, rfl⟩
      have hcx := HX.out.cell k
      rw [pCells_at l k (by omega), hx] at hcx
      have HXX := Lib.hid hx
      clear hx
      by_cases h0 : x = 0
      · subst h0
        go_wp2_with fail
        go_round
        case rel => exact ⟨k, rfl, by omega, Lib.hid (by rw [← HC.out, cutN, if_pos HXX.out])⟩
        case measure => simp [intOf]
      · have hx0 : ((x : Int) == 0) = false := by rw [beq_eq_false_iff_ne]; omega
        have HN := Lib.hid h0
        clear h0
        go_wp2_with fail
        go_ret
        have hz : cutN l l.length = k + 1 := by rw [← HC.out, cutN, if_neg (by rw [HXX.out]; exact HN.out)]
        refine ⟨by rw [hz]; rfl, ?_, HB.out⟩
        unfold cutL
        exact RU8.of_box HX.out _

/-- The first k of g added to f, g's places being moved on by s; n places. -/
def sumK (f : List Nat) (s : Nat) (g : List Nat) (n k : Nat) : List Nat := (List.range n).map fun i => f.getD i 0 ^^^ (if s ≤ i ∧ i - s < k then g.getD (i - s) 0 else 0)
def plusL (f : List Nat) (s : Nat) (g : List Nat) : List Nat := cutL (sumK f s g (max f.length (s + g.length)) g.length)
theorem sumK_len (f : List Nat) (s : Nat) (g : List Nat) (n k : Nat) : (sumK f s g n k).length = n := by simp [sumK]
theorem sumK_getD (f : List Nat) (s : Nat) (g : List Nat) (n k i : Nat) (h : i < n) : (sumK f s g n k).getD i 0 = f.getD i 0 ^^^ (if s ≤ i ∧ i - s < k then g.getD (i - s) 0 else 0) := by
  simp [sumK, h]
theorem sumK_zero (f : List Nat) (s : Nat) (g : List Nat) (n : Nat) (h : f.length ≤ n) : sumK f s g n 0 = f ++ List.replicate (n - f.length) 0 := by
  apply List.ext_getElem
  · rw [sumK_len, List.length_append, List.length_replicate]; omega
  · intro i h1 h2
    simp only [sumK, List.getElem_map, List.getElem_range, Nat.not_lt_zero, and_false, if_false, Nat.xor_zero]
    by_cases hi : i < f.length
    · rw [List.getElem_append_left hi, List.getD_eq_getElem?_getD, List.getElem?_eq_getElem hi]; rfl
    · rw [List.getElem_append_right (by omega), List.getElem_replicate, List.getD_eq_getElem?_getD, List.getElem?_eq_none (by omega)]; rfl
theorem sumK_succ (f : List Nat) (s : Nat) (g : List Nat) (n k : Nat) (h : s + k < n) : sumK f s g n (k + 1) = (sumK f s g n k).set (s + k) ((sumK f s g n k).getD (s + k) 0 ^^^ g.getD k 0) := by
  apply List.ext_getElem
  · rw [List.length_set, sumK_len, sumK_len]
  · intro i h1 h2
    have hi : i < n := by rw [sumK_len] at h1; exact h1
    rw [List.getElem_set]
    simp only [sumK_getD _ _ _ _ _ _ h]
    simp only [sumK, List.getElem_map, List.getElem_range]
    by_cases e : s + k = i
    · subst e
      simp
    · rw [if_neg e]
      by_cases h3 : s ≤ i ∧ i - s < k
      · rw [if_pos h3, if_pos ⟨h3.1, by omega⟩]
      · rw [if_neg h3, if_neg (by omega)]

theorem sumK_lt {f g : List Nat} {s : Nat} (hf : ∀ x ∈ f, x < 2) (hg : ∀ x ∈ g, x < 2) (n k : Nat) : ∀ x ∈ sumK f s g n k, x < 256 := by
  intro x hx
  obtain ⟨i, _, rfl⟩ := List.mem_map.1 hx
  refine Nat.xor_lt_two_pow (n := 8) (getD_lt (M := 256) (fun x hx => Nat.lt_trans (hf x hx) (by decide)) (by decide) i) ?_
  split
  · exact getD_lt (M := 256) (fun x hx => Nat.lt_trans (hg x hx) (by decide)) (by decide) _
  · decide
theorem cutL_len (l : List Nat) : (cutL l).length = cutN l l.length := by
  unfold cutL; rw [List.length_take]; have := cutN_le l l.length; omega
theorem cut_of (b o c n : Nat) (l : List Nat) (w : World) (hn : l.length = n) (hr : RU8 w w.heap.size (some ⟨b, o, none⟩) l) (hl : n ≤ 1000000) :
    Calls Try.prog 127 #[.slice (some ⟨b, o, none⟩) n c] w fun e w' => e = .returned (.slice (some ⟨w.heap.size, 0, none⟩) (cutN l l.length) (cutN l l.length)) ∧ RU8 w' w'.heap.size (some ⟨w.heap.size, 0, none⟩) (cutL l) ∧ Below w.heap.size w w' := by
  subst hn; exact cut_any b o c l w hr hl

set_option maxRecDepth 100000 in
set_option maxHeartbeats 4000000 in
theorem plus_any (b1 o1 c1 b2 o2 c2 s : Nat) (f g : List Nat) (w : World) (hf : RU8 w w.heap.size (some ⟨b1, o1, none⟩) f) (hg : RU8 w w.heap.size (some ⟨b2, o2, none⟩) g) (hfl : f.length ≤ 100000) (hgl : g.length ≤ 100000) (hs : s ≤ 100000) (hf2 : ∀ x ∈ f, x < 2) (hg2 : ∀ x ∈ g, x < 2) :
    Calls Try.prog 107 #[.slice (some ⟨b1, o1, none⟩) f.length c1, .int .i64 s, .slice (some ⟨b2, o2, none⟩) g.length c2] w fun e w' => ∃ g', e = .returned (.slice (some ⟨g', 0, none⟩) (plusL f s g).length (plusL f s g).length) ∧ RU8 w' w'.heap.size (some ⟨g', 0, none⟩) (plusL f s g) ∧ Below w.heap.size w w' := by
  obtain ⟨n, hn⟩ : ∃ n, n = max f.length (s + g.length) := ⟨_, rfl⟩
  have hnf : f.length ≤ n := by omega
  have hng : s + g.length ≤ n := by omega
  have hmk := make_u8 105 Try.underlying105 n (by omega)
  have hb0 : Below w.heap.size w (w.alloc (.cells (pCells (List.replicate n 0)) 5)) := (Below.refl _ w).alloc (Nat.le_refl _) _
  have hcp := copy_u8 105 105 Try.underlying105 w.heap.size n n c1 b1 o1 f _ (Box.new w _ _) hnf (Lies.more (Lies.below hf hb0) hb0.size)
  obtain ⟨w2, hw2⟩ : ∃ w2, (w.alloc (.cells (pCells (List.replicate n 0)) 5)).setRow w.heap.size (pCells (f ++ List.replicate (n - f.length) 0)) = w2 := ⟨_, rfl⟩
  have HX := Lib.hid (show Box w2 w.heap.size 5 (pCells (sumK f s g n 0)) by
    rw [← hw2, sumK_zero _ _ _ _ hnf]; exact setRow_heap _ _ _ _ _ _ (Box.new w _ _))
  have HB := Lib.hid (show Below w.heap.size w w2 by rw [← hw2]; exact below_setRowP hb0 (Nat.le_refl _) _)
  rw [hw2] at hcp
  have HN := Lib.hid hn
  have HG := Lib.hid hg
  have HF2 := Lib.hid hf2
  have HG2 := Lib.hid hg2
  have hni : (0 : Int) ≤ (n : Int) := by omega
  have hnn : n ≤ 200000 := by omega
  clear hw2 hf hg hb0 hf2 hg2
  have key : (f.length < s + g.length ∧ n = s + g.length) ∨ (s + g.length ≤ f.length ∧ n = f.length) := by omega
  rcases key with ⟨hle, hn2⟩ | ⟨hle, hn2⟩
  · have hmk1 : ∀ w, (Instr.makeSlice 105 (.int .i64 ((s : Int) + (g.length : Int))) (.int .i64 ((s : Int) + (g.length : Int)))).run Try.prog w = .ok (.slice (some ⟨w.heap.size, 0, none⟩) n n) (w.alloc (.cells (pCells (List.replicate n 0)) 5)) := by
      intro w
      rw [show (s : Int) + (g.length : Int) = (n : Int) by omega]
      exact hmk w
    have hle' : (f.length : Int) < (s : Int) + (g.length : Int) := by omega
    clear hn hn2 hmk
    go_enter Try.func107, Try.ntmps107
    go_wp2_with fail
    clear hmk1 hcp hle'
    go_loopw [23] (fun i wr => ∃ k : Nat, i = .int .i64 k ∧ k ≤ g.length ∧ Hid (Box wr w.heap.size 5 (pCells (sumK f s g n k))) ∧ Hid (Below w.heap.size w wr)) (fun i _ => g.length - (intOf i).toNat)
    case atStart => exact ⟨0, rfl, by omega, HX, HB⟩
    case round =>
      obtain ⟨k, rfl, hk, HX1, HB1⟩ := hrel
      have HXk := HX1
      have HBk := HB1
      clear HX1 HB1 HX HB
      by_cases hlt : k < g.length
      · obtain ⟨b', o', e', hb', hcg⟩ := (show RU8 wr w.heap.size (some ⟨b2, o2, none⟩) g from Lies.below HG.out HBk.out).at_ hlt
        cases e'
        obtain ⟨y, hy⟩ : ∃ y, g.getD k 0 = y := ⟨_, rfl⟩
        obtain ⟨x, hx⟩ : ∃ x, (sumK f s g n k).getD (s + k) 0 = x := ⟨_, rfl⟩
        have HY := Lib.hid hy
        have HXX := Lib.hid hx
        have HY2 := Lib.hid (show y < 256 by rw [← hy]; exact getD_lt (fun x hx => Nat.lt_trans (HG2.out x hx) (by decide)) (by decide) k)
        have HX2 := Lib.hid (show x < 256 by rw [← hx]; exact getD_lt (sumK_lt HF2.out HG2.out n k) (by decide) (s + k))
        rw [hy] at hcg
        have hsk : s + k < n := by omega
        have hcx := HXk.out.cell (s + k)
        rw [pCells_at _ _ (by rw [sumK_len]; exact hsk), hx] at hcx
        have hfx := HXk.out.free (s + k)
        have hsk' : (s : Int) + (k : Int) < (n : Int) := by omega
        have hsk0 : (0 : Int) ≤ (s : Int) + (k : Int) := by omega
        clear hy hx
        go_wp2_with fail
        clear hcg hcx hfx
        go_roundw
        case rel =>
          refine ⟨k + 1, by go_num, by omega, Lib.hid ?_, Lib.hid ?_⟩
          · rw [sumK_succ _ _ _ _ _ hsk, HXX.out, HY.out, ← pCells_set, ← u8_xor_nat x y HX2.out HY2.out]
            exact HXk.out.put (s + k) _
          · exact HBk.out.setCell (p := ⟨w.heap.size, s + k, none⟩) (Nat.le_refl _) _
        case measure => simp [intOf]; omega
      · obtain rfl : k = g.length := by omega
        have HL := Lib.hid (sumK_len f s g n g.length)
        have HPL := Lib.hid (show plusL f s g = cutL (sumK f s g n g.length) by unfold plusL; rw [← HN.out])
        have HRU := Lib.hid (show RU8 wr wr.heap.size (some ⟨w.heap.size, 0, none⟩) (sumK f s g n g.length) by
          have h1 := RU8.of_box HXk.out n
          rwa [List.take_of_length_le (by rw [sumK_len]; exact Nat.le_refl _)] at h1)
        go_wp2_with fail
        refine (cut_of w.heap.size 0 n n (sumK f s g n g.length) wr HL.out HRU.out (by omega)).mono ?_
        rintro e w3 ⟨rfl, hr3, hb3⟩
        go_wp2_with fail
        go_ret
        refine ⟨wr.heap.size, by rw [HPL.out, cutL_len]; rfl, by rw [HPL.out]; exact hr3, HBk.out.trans (hb3.mono HBk.out.size)⟩
  · have hmk1 : ∀ w, (Instr.makeSlice 105 (.int .i64 (f.length : Int)) (.int .i64 (f.length : Int))).run Try.prog w = .ok (.slice (some ⟨w.heap.size, 0, none⟩) n n) (w.alloc (.cells (pCells (List.replicate n 0)) 5)) := by
      intro w
      rw [show (f.length : Int) = (n : Int) by omega]
      exact hmk w
    have hle' : (s : Int) + (g.length : Int) ≤ (f.length : Int) := by omega
    clear hn hn2 hmk
    go_enter Try.func107, Try.ntmps107
    go_wp2_with fail
    clear hmk1 hcp hle'
    go_loopw [23] (fun i wr => ∃ k : Nat, i = .int .i64 k ∧ k ≤ g.length ∧ Hid (Box wr w.heap.size 5 (pCells (sumK f s g n k))) ∧ Hid (Below w.heap.size w wr)) (fun i _ => g.length - (intOf i).toNat)
    case atStart => exact ⟨0, rfl, by omega, HX, HB⟩
    case round =>
      obtain ⟨k, rfl, hk, HX1, HB1⟩ := hrel
      have HXk := HX1
      have HBk := HB1
      clear HX1 HB1 HX HB
      by_cases hlt : k < g.length
      · obtain ⟨b', o', e', hb', hcg⟩ := (show RU8 wr w.heap.size (some ⟨b2, o2, none⟩) g from Lies.below HG.out HBk.out).at_ hlt
        cases e'
        obtain ⟨y, hy⟩ : ∃ y, g.getD k 0 = y := ⟨_, rfl⟩
        obtain ⟨x, hx⟩ : ∃ x, (sumK f s g n k).getD (s + k) 0 = x := ⟨_, rfl⟩
        have HY := Lib.hid hy
        have HXX := Lib.hid hx
        have HY2 := Lib.hid (show y < 256 by rw [← hy]; exact getD_lt (fun x hx => Nat.lt_trans (HG2.out x hx) (by decide)) (by decide) k)
        have HX2 := Lib.hid (show x < 256 by rw [← hx]; exact getD_lt (sumK_lt HF2.out HG2.out n k) (by decide) (s + k))
        rw [hy] at hcg
        have hsk : s + k < n := by omega
        have hcx := HXk.out.cell (s + k)
        rw [pCells_at _ _ (by rw [sumK_len]; exact hsk), hx] at hcx
        have hfx := HXk.out.free (s + k)
        have hsk' : (s : Int) + (k : Int) < (n : Int) := by omega
        have hsk0 : (0 : Int) ≤ (s : Int) + (k : Int) := by omega
        clear hy hx
        go_wp2_with fail
        clear hcg hcx hfx
        go_roundw
        case rel =>
          refine ⟨k + 1, by go_num, by omega, Lib.hid ?_, Lib.hid ?_⟩
          · rw [sumK_succ _ _ _ _ _ hsk, HXX.out, HY.out, ← pCells_set, ← u8_xor_nat x y HX2.out HY2.out]
            exact HXk.out.put (s + k) _
          · exact HBk.out.setCell (p := ⟨w.heap.size, s + k, none⟩) (Nat.le_refl _) _
        case measure => simp [intOf]; omega
      · obtain rfl : k = g.length := by omega
        have HL := Lib.hid (sumK_len f s g n g.length)
        have HPL := Lib.hid (show plusL f s g = cutL (sumK f s g n g.length) by unfold plusL; rw [← HN.out])
        have HRU := Lib.hid (show RU8 wr wr.heap.size (some ⟨w.heap.size, 0, none⟩) (sumK f s g n g.length) by
          have h1 := RU8.of_box HXk.out n
          rwa [List.take_of_length_le (by rw [sumK_len]; exact Nat.le_refl _)] at h1)
        go_wp2_with fail
        refine (cut_of w.heap.size 0 n n (sumK f s g n g.length) wr HL.out HRU.out (by omega)).mono ?_
        rintro e w3 ⟨rfl, hr3, hb3⟩
        go_wp2_with fail
        go_ret
        refine ⟨wr.heap.size, by rw [HPL.out, cutL_len]; rfl, by rw [HPL.out]; exact hr3, HBk.out.trans (hb3.mono HBk.out.size)⟩
end Go.Proofs.Ytpdgjjpfahobaaa
