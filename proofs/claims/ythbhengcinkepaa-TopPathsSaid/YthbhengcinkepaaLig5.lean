/- The closure that reduces a row by the table, and the loop that fills the table. -/
import Derived.Test.YthbhengcinkepaaLig2
import Derived.Test.YthbhengcinkepaaLig4
import Derived.Deep.LoopGhost
namespace Go.Proofs.Ythbhengcinkepaa.Lig
open Go.RowKit Lamp

/-- The cells of a table of rows. -/
def rCells (R : List Nat) : Array Value := ((natV R).map (Value.int .u32)).toArray
theorem rCells_at (R : List Nat) (k : Nat) (h : k < R.length) : (rCells R)[k]? = some (.int .u32 (R.getD k 0 : Nat)) := by
  simp [rCells, natV, List.getElem?_eq_getElem h]
theorem rCells_set (R : List Nat) (i v : Nat) : (rCells R).setIfInBounds i (.int .u32 (v : Nat)) = rCells (R.set i v) := by
  unfold rCells natV
  rw [List.setIfInBounds_toArray, List.map_set, List.map_set]

theorem switched_of {r s : Nat} (w : World) (hr : r < 4294967296) (h : r / 65536 = s) :
    Calls Try.prog 132 #[.int .u32 r] w fun e w' => e = .returned (.int .i64 (s : Nat)) ∧ w = w' := by
  subst h; exact switched_any r w hr
theorem greatest_of {x t : Nat} (w : World) (h0 : x ≠ 0) (h : x < 65536) (ht : x.log2 = t) :
    Calls Try.prog 133 #[.int .i64 x] w fun e w' => e = .returned (.int .i64 (t : Nat)) ∧ w = w' := by
  subst ht; exact greatest_any x w h0 h

theorem u32_xor' (a b : Nat) (ha : a < 4294967296) (hb : b < 4294967296) : bits BinOp.xor IntKind.u32 (a : Int) (b : Int) = ((a ^^^ b : Nat) : Int) := u32_xor_nat a b ha hb

set_option maxHeartbeats 1000000 in
theorem reduce_any (g r : Nat) (R : List Nat) (w : World) (hb : Box w g 183 (rCells R)) (hR : TabOk R) (hbig : ∀ k, R.getD k 0 < 4294967296) (hr : r < 4294967296) :
    Calls Try.prog 131 #[.int .u32 r, .pointer (some ⟨g, 0, none⟩)] w fun e w' => e = .returned (.int .u32 (redF R r : Nat)) ∧ w = w' := by
  have HB := Lib.hid hb
  have HR := Lib.hid hR
  have HG := Lib.hid hbig
  clear hb hR hbig
  go_enter Try.func131, Try.ntmps131
  go_wp2_with fail
  go_loopg [0] 16 (fun gk v wr => ∃ r' : Nat, v = .int .u32 r' ∧ w = wr ∧ Hid (r' < 4294967296) ∧ Hid (red R (gk + 1) r' = redF R r) ∧ Hid (r' / 65536 < 2 ^ gk))
  case atStart => exact ⟨r, rfl, rfl, Lib.hid hr, Lib.hid rfl, Lib.hid (by show r / 65536 < 65536; omega)⟩
  case round =>
    obtain ⟨r', rfl, rfl, HQ1, HE1, HL1⟩ := hrel
    have HQ := HQ1
    have HE := HE1
    have HL := HL1
    clear HQ1 HE1 HL1 hr
    obtain ⟨s, HS⟩ : ∃ s, Hid (r' / 65536 = s) := ⟨_, Lib.hid rfl⟩
    by_cases h0 : s = 0
    · subst h0
      go_wp2_with (go_at_call 132; refine (switched_of w HQ.out HS.out).mono ?_; rintro e w' ⟨rfl, rfl⟩)
      go_ret
      refine ⟨ret_int ?_, rfl⟩
      rw [← HE.out, red, if_pos (.inl HS.out)]
    · have hs16 : s < 65536 := by have := HQ.out; have := HS.out; omega
      obtain ⟨t, HT⟩ : ∃ t, Hid (s.log2 = t) := ⟨_, Lib.hid rfl⟩
      have ht16 : t < 16 := by rw [← HT.out]; exact log2_lt' h0 hs16
      have ht16' : (t : Int) < 16 := by omega
      have hs0 : ((s : Int) == 0) = false := by rw [beq_eq_false_iff_ne]; omega
      have hs0' : ((s : Int) != 0) = true := by simpa using h0
      obtain ⟨q, HQQ⟩ : ∃ q, Hid (q = R.getD t 0) := ⟨_, Lib.hid rfl⟩
      have hcell := HB.out.cell t
      rw [rCells_at R t (by rw [HR.out.1]; exact ht16), ← HQQ.out] at hcell
      by_cases hq : q = 0
      · subst hq
        go_wp2_with (first
          | (go_at_call 132; refine (switched_of w HQ.out HS.out).mono ?_; rintro e w' ⟨rfl, rfl⟩)
          | (go_at_call 133; refine (greatest_of w h0 hs16 HT.out).mono ?_; rintro e w' ⟨rfl, rfl⟩))
        go_ret
        refine ⟨ret_int ?_, rfl⟩
        rw [← HE.out, red, if_pos (.inr (by rw [HS.out, HT.out]; exact HQQ.out.symm))]
      · have hq0 : ((q : Int) == 0) = false := by rw [beq_eq_false_iff_ne]; omega
        have hst := red_step HR.out (f := gk) (r := r') (by rw [HS.out]; exact h0) (by rw [HS.out, HT.out, ← HQQ.out]; exact hq) HL.out
        rw [HS.out, HT.out, ← HQQ.out] at hst
        have HST := Lib.hid hst
        have HE2 := Lib.hid (show red R (gk + 1) r' = red R gk (r' ^^^ q) by
          rw [red, if_neg, HS.out, HT.out, ← HQQ.out]
          rw [HS.out, HT.out, ← HQQ.out]
          exact fun h => h.elim h0 hq)
        have hg1 := hst.1
        clear hst
        have HQB := Lib.hid (show q < 4294967296 by rw [HQQ.out]; exact HG.out t)
        go_wp2_with (first
          | (go_at_call 132; refine (switched_of w HQ.out HS.out).mono ?_; rintro e w' ⟨rfl, rfl⟩)
          | (go_at_call 133; refine (greatest_of w h0 hs16 HT.out).mono ?_; rintro e w' ⟨rfl, rfl⟩))
        go_roundg (gk - 1)
        case rel =>
          refine ⟨r' ^^^ q, val_int (u32_xor' r' q HQ.out HQB.out), rfl, Lib.hid (Nat.xor_lt_two_pow (n := 32) HQ.out HQB.out), Lib.hid ?_, Lib.hid HST.out.2⟩
          rw [← HE.out, HE2.out, Nat.sub_add_cancel hg1]
        case measure => omega

theorem rowOf_of (p s : Nat) (a b : Int) (w : World) (ha : a = (p : Int)) (hb : b = (s : Int)) (hp : p < 65536) (hs : s < 65536) :
    Calls Try.prog 134 #[.int .i64 a, .int .i64 b] w fun e w' => e = .returned (.int .u32 ((rowV p s : Nat) : Int)) ∧ w' = w := by
  subst ha hb; exact (rowOf_any p s w hp hs).mono fun e w' h => ⟨h.1, h.2.symm⟩
theorem pressed_of {r s : Nat} (w : World) (hr : r < 4294967296) (h : r % 65536 = s) :
    Calls Try.prog 135 #[.int .u32 r] w fun e w' => e = .returned (.int .i64 (s : Nat)) ∧ w = w' := by
  subst h; exact pressed_any r w hr
theorem reduce_q (g r : Nat) (R : List Nat) (w : World) (hb : Box w g 183 (rCells R)) (hR : TabOk R) (hbig : ∀ k, R.getD k 0 < 4294967296) (hr : r < 4294967296) :
    Calls Try.prog 131 #[.int .u32 r, .pointer (some ⟨g, 0, none⟩)] w fun e w' => e = .returned (.int .u32 (redF R r : Nat)) ∧ w' = w := (reduce_any g r R w hb hR hbig hr).mono fun _ _ h => ⟨h.1, h.2.symm⟩

theorem rowV_lt {p s : Nat} (hp : p < 65536) (hs : s < 65536) : rowV p s < 4294967296 := by unfold rowV; omega
theorem red_lt {R : List Nat} (hR : ∀ g, R.getD g 0 < 4294967296) (f : Nat) : ∀ r, r < 4294967296 → red R f r < 4294967296 := by
  induction f with
  | zero => exact fun r h => h
  | succ f ih =>
    intro r h
    rw [red]
    split
    · exact h
    · exact ih _ (Nat.xor_lt_two_pow (n := 32) h (hR _))
theorem redAll_len (sw : List Nat) (k : Nat) : (redAll sw k).2.length ≤ k := by
  induction k with
  | zero => exact Nat.le_refl _
  | succ k ih =>
    show (redStep sw k (redAll sw k)).2.length ≤ k + 1
    unfold redStep
    simp only
    split
    · rw [List.length_append]; simp; exact ih
    · exact Nat.le_succ_of_le ih
theorem take_getD {s : List Nat} {n k : Nat} (h : k < n) : (s.take n).getD k 0 = s.getD k 0 := by
  simp only [List.getD_eq_getElem?_getD, List.getElem?_take, if_pos h]
theorem redAll_quiet {sw : List Nat} {k r : Nat} {R Q : List Nat} (h1 : (redAll sw k).1 = R) (h2 : (redAll sw k).2 = Q) (hr : redF R (rowV (2 ^ k) (sw.getD k 0)) = r) (h0 : r / 65536 = 0) : redAll sw (k + 1) = (R, Q ++ [r % 65536]) := by
  show redStep sw k (redAll sw k) = _
  unfold redStep
  simp only [h1, h2, hr, h0, if_true]
theorem redAll_row {sw : List Nat} {k r : Nat} {R Q : List Nat} (h1 : (redAll sw k).1 = R) (h2 : (redAll sw k).2 = Q) (hr : redF R (rowV (2 ^ k) (sw.getD k 0)) = r) (h0 : r / 65536 ≠ 0) : redAll sw (k + 1) = (R.set (r / 65536).log2 r, Q) := by
  show redStep sw k (redAll sw k) = _
  unfold redStep
  simp only [h1, h2, hr, if_neg h0]
/-- A row of integers of one's own, in memory from base on. -/
def OwnB (w : World) (base : Nat) (v : Value) (zs : List Int) : Prop := w.ownsRow base 3 1 v zs.length (zs.map (Value.int .i64))

theorem OwnB.drewN {w : World} {base : Nat} {v : Value} {zs : List Int} (h : OwnB w base v zs) (n : Nat) : OwnB (w.drewN n) base v zs := h
theorem OwnB.alloc {w : World} {base : Nat} {v : Value} {zs : List Int} (h : OwnB w base v zs) (o : Obj) : OwnB (w.alloc o) base v zs := World.ownsRow.alloc h o
theorem OwnB.nil_ (w : World) (base : Nat) : OwnB w base (.slice none 0 0) [] := ⟨by simp, .inl ⟨rfl, rfl⟩⟩
theorem OwnB.blk {w : World} {base : Nat} {v : Value} {zs : List Int} (h : OwnB w base v zs) : ∀ g, v.ownBlock = some g → base ≤ g ∧ g < w.heap.size ∧ ∃ cur, Box w g 3 cur := by
  intro g hg
  rcases h.2 with ⟨rfl, _⟩ | ⟨g', cap, cur, rfl, hb, hh, _⟩
  · cases hg
  · have : g' = g := by simpa [Value.ownBlock] using hg
    subst this
    exact ⟨hb, Box.lt hh, cur, hh⟩
theorem OwnB.far {w : World} {base : Nat} {v : Value} {zs : List Int} (h : OwnB w base v zs) {g : Nat} {t : TypeId} {cs : Array Value} (hb : Box w g t cs) (ht : t ≠ 3) (j : Nat) (u : Value) : OwnB (w.setCell ⟨g, j, none⟩ u) base v zs := by
  refine World.ownsRow.kept h (row := some g) ?_ ?_
  · exact ⟨rfl, rfl, rfl, by simp, fun i hi hne => heap_setCell_other w _ i u (fun e => hne (by rw [e]))⟩
  · refine .inr fun e => ?_
    obtain ⟨_, _, cur, hc⟩ := h.blk g e
    exact hb.ne hc ht rfl

set_option maxHeartbeats 2000000 in
theorem reduction_any (n : Nat) (sw : List Nat) (w : World) (hl : sw.length = 16) (hn : n ≤ 16) (hs : ∀ x ∈ sw, x < 65536) :
    Calls Try.prog 85 #[.agg (gCells n sw)] w fun e w' => ∃ v, e = .returned (.tuple #[.func (.func 131) #[] #[.pointer (some ⟨w.heap.size + 1, 0, none⟩)], v]) ∧ OwnB w' w.heap.size v (natV (redAll (sw.take n) n).2) ∧ Box w' (w.heap.size + 1) 183 (rCells (redAll (sw.take n) n).1) ∧ Below w.heap.size w w' := by
  have HL := Lib.hid hl
  have HS := Lib.hid hs
  have hn' : (n : Int) ≤ 16 := by omega
  have hg0 := gCells_0 n sw
  have HTL := Lib.hid (show (sw.take n).length = n by rw [List.length_take, hl]; omega)
  have HTS := Lib.hid (show ∀ x ∈ sw.take n, x < 65536 from fun x hx => hs x (List.mem_of_mem_take hx))
  clear hl hs
  go_enter Try.func85, Try.ntmps85
  go_wp2_with fail
  clear hg0
  go_loopw [3, 10] (fun sv i wr => ∃ (k : Nat) (v : Value), v = sv ∧ i = .int .i64 k ∧ k ≤ n ∧ Hid (OwnB wr w.heap.size v (natV (redAll (sw.take n) k).2)) ∧ Hid (Box wr (w.heap.size + 1) 183 (rCells (redAll (sw.take n) k).1)) ∧ Hid (Box wr w.heap.size 136 (gCells n sw)) ∧ Hid (Below w.heap.size w wr)) (fun _ i _ => n - (intOf i).toNat)
  case atStart =>
    refine ⟨0, _, rfl, rfl, by omega, Lib.hid (OwnB.nil_ _ _), Lib.hid ?_, Lib.hid ((Box.new w _ _).alloc _), Lib.hid (((Below.refl _ _).alloc (Nat.le_refl _) _).alloc (by simp) _)⟩
    have h := Box.new (w.alloc (Obj.cells (gCells n sw) 136)) 183 (rCells (List.replicate 16 0))
    rw [show (w.alloc (Obj.cells (gCells n sw) 136)).heap.size = w.heap.size + 1 by simp] at h
    exact h
  case round =>
    obtain ⟨k, v, rfl, rfl, hk, HO1, HR1, HG1, HB1⟩ := hrel
    have HO := HO1
    have HR := HR1
    have HG := HG1
    have HB := HB1
    clear HO1 HR1 HG1 HB1
    have hbs := HB.out.size
    by_cases hlt : k < n
    · have hk16 : k < 16 := by omega
      have hk16' : (k : Int) < 16 := by omega
      have hI := Inv.all_ (sw.take n) (by rw [HTL.out]; exact hn) HTS.out k (by rw [HTL.out]; omega)
      obtain ⟨R, hRe⟩ : ∃ R, (redAll (sw.take n) k).1 = R := ⟨_, rfl⟩
      obtain ⟨Q, hQe⟩ : ∃ Q, (redAll (sw.take n) k).2 = Q := ⟨_, rfl⟩
      rw [hRe, hQe] at hI
      rw [hRe] at HR
      rw [hQe] at HO
      obtain ⟨y, HY⟩ : ∃ y, Hid (y = sw.getD k 0) := ⟨_, Lib.hid rfl⟩
      have HYL := Lib.hid (show y < 65536 by rw [HY.out]; exact getD_lt HS.out (by decide) k)
      have hcy := gBox_at HG.out (i := k) (by rw [HL.out]; exact hk16)
      rw [← HY.out] at hcy
      have HI := Lib.hid hI
      have HRE := Lib.hid hRe
      have HQE := Lib.hid hQe
      clear hI hRe hQe
      go_upto_region 6 with fail
      go_quiet ((first
        | (go_at_call 134; exact Calls.quiet_of_same (rowOf_of (2 ^ k) y _ _ _ (by first | exact (shl_one k hk16).2 | exact (shl_one k hk16).1) rfl (pow_lt16 hk16) HYL.out))
        | (go_at_call 131; exact Calls.quiet_of_same (reduce_q (w.heap.size + 1) (rowV (2 ^ k) y) R _ HR.out HI.out.tab HI.out.big (rowV_lt (pow_lt16 hk16) HYL.out)))))
      obtain ⟨r, hr⟩ : ∃ r, redF R (rowV (2 ^ k) y) = r := ⟨_, rfl⟩
      rw [hr]
      have HRL := Lib.hid (show r < 4294967296 by rw [← hr]; exact red_lt HI.out.big 17 _ (rowV_lt (pow_lt16 hk16) HYL.out))
      have HRR := Lib.hid (show redF R (rowV (2 ^ k) ((sw.take n).getD k 0)) = r by rw [take_getD hlt, ← HY.out]; exact hr)
      obtain ⟨W1, hW1⟩ : ∃ W1, wr.drewN nq = W1 := ⟨_, rfl⟩
      rw [hW1]
      have HO1 := Lib.hid (show OwnB W1 w.heap.size v (natV Q) by rw [← hW1]; exact HO.out.drewN _)
      have HR1 := Lib.hid (show Box W1 (w.heap.size + 1) 183 (rCells R) by rw [← hW1]; exact HR.out.drewN _)
      have HG1 := Lib.hid (show Box W1 w.heap.size 136 (gCells n sw) by rw [← hW1]; exact HG.out.drewN _)
      have HB1 := Lib.hid (show Below w.heap.size w W1 by rw [← hW1]; exact below_drewN HB.out _)
      have hbs1 := HB1.out.size
      clear hr hW1 HO HR HG HB hcy hbs
      by_cases h0 : r / 65536 = 0
      · have H0 := Lib.hid h0
        clear h0
        obtain ⟨x, HX⟩ : ∃ x, Hid (r % 65536 = x) := ⟨_, Lib.hid rfl⟩
        have HQL := Lib.hid (show Q.length ≤ 16 by have := redAll_len (sw.take n) k; rw [HQE.out] at this; omega)
        obtain ⟨i0, hi, hz0, hz1, hz2⟩ := info_parts Try.info3
        have ho := HO1.out
        unfold OwnB at ho
        rw [natV_len] at ho
        have HO2 := Lib.hid ho
        have HN := Lib.hid (World.news_of_block (w := W1.alloc (Obj.cells #[Value.int .i64 (x : Int)] 3)) (cs := #[Value.int .i64 (x : Int)]) (t := 3) (fr := (0, 0)) (heap_alloc_new W1 _))
        have HK1 := Lib.hid (show Q.length + 1 ≤ maxLen by have := HQL.out; unfold maxLen; omega)
        have HK2 := Lib.hid (show (Q.length + 1) * 8 ≤ 140737488355328 by have := HQL.out; omega)
        have HSZ := Lib.hid (show w.heap.size ≤ (W1.alloc (Obj.cells #[Value.int .i64 (x : Int)] 3)).heap.size by simp; omega)
        clear ho
        go_wp2_with (first
          | (go_at_call 132; refine (switched_of _ HRL.out H0.out).mono ?_; rintro e w' ⟨rfl, rfl⟩)
          | (go_at_call 135; refine (pressed_of _ HRL.out HX.out).mono ?_; rintro e w' ⟨rfl, rfl⟩)
          | (at_builtin; refine wpList_append_own _ rfl _ _ 47 rfl w.heap.size 3 i0 (.int .i64 0) 1 8 Try.underlying47 hi hz0 hz1 hz2 rfl (by decide) _ _ _ rfl (World.ownsRow.alloc HO2.out _) ⟨W1.heap.size, 0, none⟩ 1 1 [.int .i64 (x : Int)] rfl rfl HN.out (by simp [Value.oneCell']) HK1.out HK2.out HSZ.out ?_; intro v9 w9 hown9 hg9 _))
        have HE := Lib.hid (redAll_quiet HRE.out HQE.out HRR.out H0.out)
        have hs9 := hg9.size
        have hsa : (W1.alloc (Obj.cells #[Value.int .i64 (x : Int)] 3)).heap.size = W1.heap.size + 1 := by simp
        have hblk := HO1.out.blk
        have HPN := Lib.hid (show OwnB w9 w.heap.size v9 (natV (Q ++ [x])) by
          unfold OwnB
          rw [natV_len, List.length_append, natV, List.map_append, List.map_append]
          exact hown9)
        have HBN := Lib.hid (show Below w.heap.size w w9 from (HB1.out.alloc HB1.out.size _).grown hg9 (by rw [hsa]; have := HB1.out.size; omega) (fun j hj => (hblk j hj).1))
        have HRN := Lib.hid (show Box w9 (w.heap.size + 1) 183 (rCells R) from (HR1.out.alloc _).grown hg9 (fun e => by
          obtain ⟨_, _, cur, hcur⟩ := hblk _ e.symm
          exact HR1.out.ne hcur (by decide) rfl))
        have HGN := Lib.hid (show Box w9 w.heap.size 136 (gCells n sw) from (HG1.out.alloc _).grown hg9 (fun e => by
          obtain ⟨_, _, cur, hcur⟩ := hblk _ e.symm
          exact HG1.out.ne hcur (by decide) rfl))
        clear hown9 hg9 hblk
        go_roundw
        case rel =>
          refine ⟨k + 1, v9, rfl, by go_num, by omega, ?_, ?_, HGN, HBN⟩
          · rw [HE.out, HX.out]; exact HPN
          · rw [HE.out]; exact HRN
        case measure => simp [intOf]; omega
      · obtain ⟨q, HQS⟩ : ∃ q, Hid (r / 65536 = q) := ⟨_, Lib.hid rfl⟩
        have hq0 : q ≠ 0 := by rw [← HQS.out]; exact h0
        have HE := Lib.hid (redAll_row HRE.out HQE.out HRR.out h0)
        have hq16 : q < 65536 := by have := HRL.out; have := HQS.out; omega
        clear h0
        have hqb : ((q : Int) == 0) = false := by rw [beq_eq_false_iff_ne]; omega
        obtain ⟨t, HT⟩ : ∃ t, Hid (q.log2 = t) := ⟨_, Lib.hid rfl⟩
        have ht16 : t < 16 := by rw [← HT.out]; exact log2_lt' hq0 hq16
        have ht16' : (t : Int) < 16 := by omega
        have hct := HR1.out.cell t
        rw [rCells_at R t (by rw [HI.out.tab.1]; exact ht16)] at hct
        have hft := HR1.out.free t
        go_wp2_with (first
          | (go_at_call 132; refine (switched_of _ HRL.out HQS.out).mono ?_; rintro e w' ⟨rfl, rfl⟩)
          | (go_at_call 133; refine (greatest_of _ hq0 hq16 HT.out).mono ?_; rintro e w' ⟨rfl, rfl⟩))
        clear hct hft
        go_roundw
        case rel =>
          refine ⟨k + 1, v, rfl, by go_num, by omega, ?_, ?_, ?_, ?_⟩
          · rw [HE.out]; exact Lib.hid (HO1.out.far HR1.out (by decide) _ _)
          · rw [HE.out, HQS.out, HT.out, ← rCells_set]; exact Lib.hid (HR1.out.put t _)
          · exact Lib.hid (HG1.out.far (p := ⟨w.heap.size + 1, t, none⟩) (by show w.heap.size ≠ w.heap.size + 1; omega) _)
          · exact Lib.hid (HB1.out.setCell (p := ⟨w.heap.size + 1, t, none⟩) (Nat.le_succ _) _)
        case measure => simp [intOf]; omega
    · obtain rfl : k = n := by omega
      go_wp2_with fail
      go_ret2
      exact ⟨v, rfl, HO.out, HR.out, HB.out⟩
end Go.Proofs.Ythbhengcinkepaa.Lig
