/- The function beats of package dice: the table of which die beats which. -/
import Derived.Test.YtkkholagmjcgiaaTab
namespace Go.Proofs.Ytkkholagmjcgiaa
open Go.RowKit Go.Shelf

/-- Whether one die beats another. -/
def bt (ds : List (List Int)) (a b : Nat) : Bool :=
  if b < a then decide (lessL (rollL [ds.getD a [], ds.getD b []] []) < moreL (rollL [ds.getD a [], ds.getD b []] []))
  else if a < b then decide (moreL (rollL [ds.getD b [], ds.getD a []] []) < lessL (rollL [ds.getD b [], ds.getD a []] []))
  else false

/-- What is known of the table when the first dice have been compared, and die i with the first k. -/
def btTo (ds : List (List Int)) (i k a b : Nat) : Bool := (decide (a < i ∧ b < i) || decide (a = i ∧ b < k) || decide (b = i ∧ a < k)) && bt ds a b

theorem compare_agg (A1 A2 : Option Addr) (a b : List Int) (c1 c2 : Nat) (w : World) (h1 : RInts w w.heap.size A1 a) (h2 : RInts w w.heap.size A2 b) (ha : a.length ≤ 1000) (hb : b.length ≤ 1000) :
    Calls Try.prog 71 #[.slice A1 a.length c1, .slice A2 b.length c2] w fun e w' => e = .returned (.agg #[.int .i64 (moreL (rollL [a, b] [])), .int .i64 (lessL (rollL [a, b] [])), .int .i64 (sameL (rollL [a, b] []))]) ∧ Below w.heap.size w w' := compare_any A1 A2 a b c1 c2 w h1 h2 ha hb
theorem RInts.tow {w W : World} {B : Nat} {A : Option Addr} {zs : List Int} (h : RInts w B A zs) (hB : B ≤ w.heap.size) (hb : Below w.heap.size w W) : RInts W W.heap.size A zs := (h.below (hb.mono hB)).more (by have := hb.size; omega)
theorem keepC {w W w' : World} (h : Below w.heap.size w W) (hb : Below W.heap.size W w') : Below w.heap.size w w' := h.trans (hb.mono h.size)
theorem keepS {w W : World} {p q : Addr} {u v : Value} (h1 : w.cell? p = some u) (h2 : w.cell? q = some v) (hp : p.block < w.heap.size) (hq : q.block < w.heap.size) (hb : Below w.heap.size w W) :
    W.cell? p = some u ∧ W.cell? q = some v ∧ Below w.heap.size w W := ⟨(hb.cell hp).trans h1, (hb.cell hq).trans h2, hb⟩
theorem keepX {w W : World} {p q r : Addr} {u v x : Value} (h1 : w.cell? p = some u) (h2 : w.cell? q = some v) (h3 : w.cell? r = some x) (hp : p.block < w.heap.size) (hq : q.block < w.heap.size) (hr : r.block < w.heap.size) (hb : Below w.heap.size w W) :
    W.cell? p = some u ∧ W.cell? q = some v ∧ W.cell? r = some x ∧ Below w.heap.size w W := ⟨(hb.cell hp).trans h1, (hb.cell hq).trans h2, (hb.cell hr).trans h3, hb⟩
theorem RInts.to {w W : World} {B : Nat} {A : Option Addr} {zs : List Int} (h : RInts w B A zs) (hb : Below B w W) (hs : B ≤ W.heap.size) : RInts W W.heap.size A zs := (h.below hb).more hs

theorem btTo_same {ds : List (List Int)} {i k : Nat} (hk : k < i) (h1 : bt ds i k = false) (h2 : bt ds k i = false) (a b : Nat) : btTo ds i k a b = btTo ds i (k + 1) a b := by
  unfold btTo
  by_cases e1 : a = i ∧ b = k
  · obtain ⟨rfl, rfl⟩ := e1
    simp [h1]
  · by_cases e2 : b = i ∧ a = k
    · obtain ⟨rfl, rfl⟩ := e2
      simp [h2]
    · congr 1
      rw [Bool.eq_iff_iff]
      simp only [Bool.or_eq_true, decide_eq_true_eq]
      omega
theorem btTo_step {ds : List (List Int)} {i k : Nat} (hk : k < i) (a b : Nat) : (if a = k ∧ b = i then bt ds k i else if a = i ∧ b = k then bt ds i k else btTo ds i k a b) = btTo ds i (k + 1) a b := by
  by_cases e2 : a = k ∧ b = i
  · obtain ⟨rfl, rfl⟩ := e2
    simp [btTo]
  · rw [if_neg e2]
    by_cases e1 : a = i ∧ b = k
    · obtain ⟨rfl, rfl⟩ := e1
      simp [btTo]
    · rw [if_neg e1]
      unfold btTo
      congr 1
      rw [Bool.eq_iff_iff]
      simp only [Bool.or_eq_true, decide_eq_true_eq]
      omega
theorem btTo_full {ds : List (List Int)} {i : Nat} (a b : Nat) (ha : a < i + 1) : btTo ds i i a b = btTo ds (i + 1) 0 a b := by
  unfold btTo
  by_cases e : a = i ∧ b = i
  · obtain ⟨rfl, rfl⟩ := e
    simp [bt]
  · congr 1
    rw [Bool.eq_iff_iff]
    simp only [Bool.or_eq_true, decide_eq_true_eq]
    omega

set_option maxRecDepth 100000 in
set_option maxHeartbeats 4000000 in
theorem beats_any (A : Option Addr) (ds : List (List Int)) (c : Nat) (w : World) (hr : RDice w w.heap.size A ds) (hl : ds.length ≤ 6) (h8 : ∀ d ∈ ds, d.length ≤ 8) :
    Calls Try.prog 62 #[.slice A ds.length c] w fun e w' => ∃ T g, e = .returned (.slice (some ⟨T, 0, none⟩) ds.length ds.length) ∧ Tab w' T ds.length ds.length g (bt ds) w.heap.size ∧ Below w.heap.size w w' := by
  have HR := Lib.hid hr
  have H8 := Lib.hid h8
  clear hr h8
  obtain ⟨n, hn⟩ : ∃ n, ds.length = n := ⟨_, rfl⟩
  have hmk := make_tab n (by omega) id
  have HN := Lib.hid hn
  have hn6 : n ≤ 6 := by omega
  rw [hn]
  clear hn hl
  go_enter Try.func62, Try.ntmps62
  go_wp2_with fail
  clear hmk
  have hmr := make_row n (by omega)
  obtain ⟨w0, hw0⟩ : ∃ w0, w.alloc (Obj.cells (tabCells n 0 id) 65) = w0 := ⟨_, rfl⟩
  have HT0 := Lib.hid (show Tab w0 w.heap.size n 0 id (btTo ds 0 0) w.heap.size from by
    rw [← hw0]
    exact ⟨Box.new w _ _, fun a ha => absurd ha (Nat.not_lt_zero _), fun a b ha => absurd ha (Nat.not_lt_zero _), Nat.le_refl _, fun a ha => absurd ha (Nat.not_lt_zero _)⟩)
  have HB0 := Lib.hid (show Below w.heap.size w w0 from by rw [← hw0]; exact (Below.refl _ w).alloc (Nat.le_refl _) _)
  rw [hw0]
  clear hw0
  go_loopg [12] n (fun g0 i wx => ∃ (k : Nat) (g : Nat → Nat), k + g0 = n ∧ i = .int .i64 k ∧ Hid (Tab wx w.heap.size n k g (btTo ds k 0) w.heap.size) ∧ Hid (Below w.heap.size w wx))
  case atStart => exact ⟨0, id, by omega, rfl, HT0, HB0⟩
  case round =>
    obtain ⟨i, g, hig, rfl, HT1, HB1⟩ := hrel
    have HT := HT1
    have HB := HB1
    clear HT1 HB1 HT0 HB0
    cases gk with
    | zero =>
      obtain rfl : i = n := by omega
      go_wp2_with fail
      go_ret
      refine ⟨w.heap.size, g, rfl, HT.out.same fun a b ha hb => ?_, HB.out⟩
      simp [btTo, ha, hb]
    | succ g0 =>
      have hin : (i : Int) < (n : Int) := by omega
      have lt0 := HT.out.tb.lt
      have ft := HT.out.tb.free i
      have ct : ∃ u, wr.cell? ⟨w.heap.size, i, none⟩ = some u := ⟨_, (HT.out.tb.cell i).trans (tabCells_at (by omega))⟩
      obtain ⟨u0, ct⟩ := ct
      go_wp2_with fail
      obtain ⟨g', hg'⟩ : ∃ g' : Nat → Nat, g' = fun a => if a = i then wr.heap.size else g a := ⟨_, rfl⟩
      have hwe : (wr.alloc (Obj.cells (rowCells n fun _ => false) 4)).setCell ⟨w.heap.size, i, none⟩ (.slice (some ⟨wr.heap.size, 0, none⟩) n n) = (wr.setCell ⟨w.heap.size, i, none⟩ (.slice (some ⟨wr.heap.size, 0, none⟩) n n)).alloc (Obj.cells (rowCells n fun _ => false) 4) := World.setCell_alloc_past _ _ _ _ lt0
      have HT2 := Lib.hid (show Tab ((wr.setCell ⟨w.heap.size, i, none⟩ (.slice (some ⟨wr.heap.size, 0, none⟩) n n)).alloc (Obj.cells (rowCells n fun _ => false) 4)) w.heap.size n (i + 1) g' (btTo ds i 0) w.heap.size from by
        rw [hg', ← hwe]
        refine ((HT.out.same (f' := btTo ds i 0) fun _ _ _ _ => rfl).alloc _).row (by omega) ?_ HB.out.size (fun a ha => by have := (HT.out.rows a ha).lt; omega)
        have e : btTo ds i 0 i = fun _ => false := by
          funext b
          have : ¬ (b = i ∧ i < 0) := by omega
          simp [btTo]
        rw [e]
        exact Box.new wr _ _)
      have HB2 := Lib.hid (show Below w.heap.size w ((wr.setCell ⟨w.heap.size, i, none⟩ (.slice (some ⟨wr.heap.size, 0, none⟩) n n)).alloc (Obj.cells (rowCells n fun _ => false) 4)) from
        (HB.out.setCell (p := ⟨w.heap.size, i, none⟩) (Nat.le_refl _) _).alloc (by simpa using HB.out.size) _)
      clear hwe
      clear hg' ct ft u0
      go_loopg [22] i (fun g1 z wx => ∃ k : Nat, k + g1 = i ∧ z = .int .i64 k ∧ Hid (Tab wx w.heap.size n (i + 1) g' (btTo ds i k) w.heap.size) ∧ Hid (Below w.heap.size w wx))
      case atStart => exact ⟨0, by omega, rfl, HT2, HB2⟩
      case round =>
        obtain ⟨k, hki, rfl, HT3, HB3⟩ := hrel
        have HT4 := HT3
        have HB4 := HB3
        clear HT3 HB3 HT2 HB2 HT HB
        cases gk with
        | zero =>
          obtain rfl : k = i := by omega
          have HTN := Lib.hid (HT4.out.same fun a b ha _ => btTo_full a b ha)
          go_wp2_with fail
          go_roundg g0
          case measure => omega
          case rel => exact ⟨k + 1, g', by omega, by go_num, HTN, HB4⟩
        | succ g1 =>
          have hkii : (k : Int) < (i : Int) := by omega
          have hkn : (k : Int) < (n : Int) := by omega
          have hrd := HR.out.below HB4.out
          obtain ⟨b1, o1, a1, c1, d1, hA, hb1, hd1, hc1, hcl1, hr1⟩ := hrd.at_ (k := i) (by rw [HN.out]; omega)
          obtain ⟨b2, o2, a2, c2, d2, hA2, hb2, hd2, hc2, hcl2, hr2⟩ := hrd.at_ (k := k) (by rw [HN.out]; omega)
          subst hA
          cases hA2
          have HE1 := Lib.hid (show ds.getD i [] = d1 by simp [List.getD, hd1])
          have HE2 := Lib.hid (show ds.getD k [] = d2 by simp [List.getD, hd2])
          have hl1 := H8.out d1 (List.mem_of_getElem? hd1)
          have hl2 := H8.out d2 (List.mem_of_getElem? hd2)
          have HI1 := Lib.hid hr1
          have HI2 := Lib.hid hr2
          have hws := HB4.out.size
          have HC1 := Lib.hid hc1
          have HC2 := Lib.hid hc2
          clear hrd hd1 hd2 hr1 hr2 hcl1 hcl2
          have hb1' : b1 < wr.heap.size := by omega
          have hb1'' : b1 < wr.heap.size + 1 := by omega
          go_upto_region 9 with fail
          go_cut [6] (fun v6 wx => ∃ D, v6 = .pointer (some ⟨D, 0, none⟩) ∧ wr.heap.size ≤ D ∧ Hid (Box wx D 97 (duelV (rollL [d1, d2] []))) ∧ Hid (Below wr.heap.size wr wx))
          case first =>
            go_region_held3 (fun w' => w'.cell? ⟨b1, o1 + i, none⟩ = some (.slice a1 d1.length c1) ∧ w'.cell? ⟨b1, o1 + k, none⟩ = some (.slice a2 d2.length c2) ∧ Below wr.heap.size wr w') ((refine keepS HC1.out HC2.out hb1' hb1' ?_; first | exact Below.refl _ _ | exact (Below.refl _ _).drew | exact ((Below.refl _ _).drew).alloc (Nat.le_refl _) _ | exact ((Below.refl _ _).alloc (Nat.le_refl _) _).drew | exact hb | exact hb.alloc hb.size _ | exact ((hb.setCell (p := ⟨_, 0, none⟩) (Nat.le_refl _) _).setCell (p := ⟨_, 1, none⟩) (Nat.le_refl _) _).setCell (p := ⟨_, 2, none⟩) (Nat.le_refl _) _))
              ((go_at_call 71; refine (compare_agg a1 a2 d1 d2 c1 c2 _ ?_ ?_ ?_ ?_).mono ?_; (refine RInts.tow HI1.out hws ?_; first | exact Below.refl _ _ | exact (Below.refl _ _).drew | exact ((Below.refl _ _).drew).alloc (Nat.le_refl _) _ | exact ((Below.refl _ _).alloc (Nat.le_refl _) _).drew); (refine RInts.tow HI2.out hws ?_; first | exact Below.refl _ _ | exact (Below.refl _ _).drew | exact ((Below.refl _ _).drew).alloc (Nat.le_refl _) _ | exact ((Below.refl _ _).alloc (Nat.le_refl _) _).drew); omega; omega; rintro e w' ⟨rfl, hb⟩; obtain ⟨hcc, hff⟩ := bcell hb; have hb0 := hb; replace hb := keepC (w := wr) (by first | exact Below.refl _ _ | exact (Below.refl _ _).drew | exact ((Below.refl _ _).drew).alloc (Nat.le_refl _) _ | exact ((Below.refl _ _).alloc (Nat.le_refl _) _).drew) hb))
            · clear hcc hff
              go_wp2_with fail
              go_meet
              exact ⟨w'.heap.size, rfl, hb.size, Box.new w' _ _, hb.alloc hb.size _⟩
            · clear hcc hff
              go_wp2_with fail
              go_meet
              refine ⟨wr.heap.size, rfl, Nat.le_refl _, ?_, ((hb.setCell (p := ⟨_, 0, none⟩) (Nat.le_refl _) _).setCell (p := ⟨_, 1, none⟩) (Nat.le_refl _) _).setCell (p := ⟨_, 2, none⟩) (Nat.le_refl _) _⟩
              have hx : Box w' wr.heap.size 97 #[.int .i64 0, .int .i64 0, .int .i64 0] := (hb0.block wr.heap.size (by simp)).trans (by first | exact Box.new wr _ _ | exact Box.new wr.drew _ _)
              exact ((hx.put 0 _).put 1 _).put 2 _
          case rest =>
            obtain ⟨D, rfl, hD, HX, HBX⟩ := hcut
            have hx := HX.out
            have hDl := hx.lt
            have x0 := hx.cell 0
            have x1 := hx.cell 1
            have x2 := hx.cell 2
            simp only [duelV, List.getElem?_toArray, List.getElem?_cons_zero, List.getElem?_cons_succ] at x0 x1 x2
            clear hx
            obtain ⟨m, hm⟩ : ∃ m, moreL (rollL [d1, d2] []) = m := ⟨_, rfl⟩
            obtain ⟨l, hl⟩ : ∃ l, lessL (rollL [d1, d2] []) = l := ⟨_, rfl⟩
            obtain ⟨s, hs⟩ : ∃ s, sameL (rollL [d1, d2] []) = s := ⟨_, rfl⟩
            rw [hm] at x0
            rw [hl] at x1
            rw [hs] at x2
            have HM := Lib.hid hm
            have HL := Lib.hid hl
            have HS := Lib.hid hs
            have X0 := Lib.hid x0
            have X1 := Lib.hid x1
            have X2 := Lib.hid x2
            clear hm hl hs
            obtain ⟨wb, rfl⟩ : ∃ wb : World, wb = wc := ⟨_, rfl⟩
            go_upto_region 10 with fail
            go_cut [37] (fun v37 wx => v37 = .bool (decide (m = l)) ∧ Hid (Below wb.heap.size wb wx))
            case first =>
              by_cases hml : m = l
              · subst hml
                go_region_held3 (fun w' => w'.cell? ⟨D, 0, none⟩ = some (.int .i64 m) ∧ w'.cell? ⟨D, 1, none⟩ = some (.int .i64 m) ∧ w'.cell? ⟨D, 2, none⟩ = some (.int .i64 s) ∧ Below wb.heap.size wb w') ((refine keepX X0.out X1.out X2.out hDl hDl hDl ?_; first | exact Below.refl _ _ | exact (Below.refl _ _).drew | exact ((Below.refl _ _).drew).alloc (Nat.le_refl _) _ | exact ((Below.refl _ _).alloc (Nat.le_refl _) _).drew | exact hb))
                  ((go_at_call 85; refine (turned_any m m s _).mono ?_; rintro e w' ⟨rfl, hb⟩; replace hb := keepC (w := wb) (by first | exact Below.refl _ _ | exact (Below.refl _ _).drew | exact ((Below.refl _ _).drew).alloc (Nat.le_refl _) _ | exact ((Below.refl _ _).alloc (Nat.le_refl _) _).drew) hb))
                go_wp2_with fail
                go_meet
                exact ⟨by simp, hb⟩
              · have hml2 : ((m : Int) == (l : Int)) = false := by rw [beq_eq_false_iff_ne]; omega
                go_region_held3 (fun w' => w'.cell? ⟨D, 0, none⟩ = some (.int .i64 m) ∧ w'.cell? ⟨D, 1, none⟩ = some (.int .i64 l) ∧ w'.cell? ⟨D, 2, none⟩ = some (.int .i64 s) ∧ Below wb.heap.size wb w') ((refine keepX X0.out X1.out X2.out hDl hDl hDl ?_; first | exact Below.refl _ _ | exact (Below.refl _ _).drew | exact ((Below.refl _ _).drew).alloc (Nat.le_refl _) _ | exact ((Below.refl _ _).alloc (Nat.le_refl _) _).drew | exact hb))
                  ((go_at_call 85; refine (turned_any m l s _).mono ?_; rintro e w' ⟨rfl, hb⟩; replace hb := keepC (w := wb) (by first | exact Below.refl _ _ | exact (Below.refl _ _).drew | exact ((Below.refl _ _).drew).alloc (Nat.le_refl _) _ | exact ((Below.refl _ _).alloc (Nat.le_refl _) _).drew) hb))
                go_wp2_with fail
                go_meet
                exact ⟨by simp [hml], hb⟩
            case rest =>
              obtain ⟨rfl, HB5⟩ := hcut
              have HT5 := Lib.hid ((HT4.out.below HBX.out (Nat.le_refl _)).below HB5.out (Nat.le_refl _))
              have HX5 := Lib.hid (HX.out.below HB5.out HX.out.lt)
              have HB6 := Lib.hid ((HB4.out.trans (HBX.out.mono HB4.out.size)).trans (HB5.out.mono (Nat.le_trans HB4.out.size HBX.out.size)))
              have hki2 : k < i := by omega
              have HBT1 := Lib.hid (show bt ds i k = decide (l < m) by unfold bt; rw [if_pos hki2, HE1.out, HE2.out, HM.out, HL.out])
              have HBT2 := Lib.hid (show bt ds k i = decide (m < l) by unfold bt; rw [if_neg (by omega), if_pos hki2, HE1.out, HE2.out, HM.out, HL.out])
              clear X0 X1 X2 x0 x1 x2 HX HBX HB5 HT4 HB4 hDl hD
              by_cases hml : m = l
              · rw [decide_eq_true hml]
                have HTN := Lib.hid (HT5.out.same fun a b _ _ => btTo_same hki2 (by rw [HBT1.out, hml]; simp) (by rw [HBT2.out, hml]; simp) a b)
                clear hml
                go_wp2_with fail
                go_roundg g1
                case measure => omega
                case rel => exact ⟨k + 1, by omega, by go_num, HTN, HB6⟩
              · rw [decide_eq_false hml]
                have ct1 : wc.cell? ⟨w.heap.size, i, none⟩ = some (.slice (some ⟨g' i, 0, none⟩) n n) := (HT5.out.tb.cell i).trans ((tabCells_at (by omega)).trans (by rw [if_pos (by omega)]))
                have cr1 : ∃ u, wc.cell? ⟨g' i, k, none⟩ = some u := ⟨_, ((HT5.out.rows i (by omega)).cell k).trans (rowCells_at (by omega))⟩
                obtain ⟨u1, cr1⟩ := cr1
                have fr1 := (HT5.out.rows i (by omega)).free k
                have x0 := HX5.out.cell 0
                have x1 := HX5.out.cell 1
                simp only [duelV, List.getElem?_toArray, List.getElem?_cons_zero, List.getElem?_cons_succ, HM.out, HL.out] at x0 x1
                clear hml hki2
                go_wp2_with fail
                go_still_tail 11, (by kernel_rfl)
                go_wp2_with fail
                have HT6 := Lib.hid ((HT5.out.put (a := i) (b := k) (by omega) (by omega) (decide (l < m))).drewN 1)
                have HX6 := Lib.hid ((HX5.out.far (p := ⟨g' i, k, none⟩) (fun e => (HT5.out.rows i (by omega)).ne HX5.out (by decide) e.symm) (.bool (decide (l < m)))).drewN 1)
                have HB7 := Lib.hid ((HB6.out.setCell (p := ⟨g' i, k, none⟩) (HT5.out.lo.2 i (by omega)) (.bool (decide (l < m)))).drew)
                obtain ⟨we, hwe⟩ : ∃ we, (wc.setCell ⟨g' i, k, none⟩ (.bool (decide (l < m)))).drew = we := ⟨_, rfl⟩
                have hwe1 : (wc.setCell ⟨g' i, k, none⟩ (.bool (decide (l < m)))).drewN 1 = (wc.setCell ⟨g' i, k, none⟩ (.bool (decide (l < m)))).drew := rfl
                rw [hwe1, hwe] at HT6 HX6
                rw [hwe] at HB7
                try simp only [Int.ofNat_lt]
                rw [hwe]
                clear hwe hwe1 HT5 HX5 HB6 ct1 cr1 fr1 x0 x1
                have ct1 : we.cell? ⟨w.heap.size, k, none⟩ = some (.slice (some ⟨g' k, 0, none⟩) n n) := (HT6.out.tb.cell k).trans ((tabCells_at (by omega)).trans (by rw [if_pos (by omega)]))
                have cr1 : ∃ u, we.cell? ⟨g' k, i, none⟩ = some u := ⟨_, ((HT6.out.rows k (by omega)).cell i).trans (rowCells_at (by omega))⟩
                obtain ⟨u2, cr1⟩ := cr1
                have fr1 := (HT6.out.rows k (by omega)).free i
                have x0 := HX6.out.cell 0
                have x1 := HX6.out.cell 1
                simp only [duelV, List.getElem?_toArray, List.getElem?_cons_zero, List.getElem?_cons_succ, HM.out, HL.out] at x0 x1
                go_still_tail 11, (by kernel_rfl)
                go_wp2_with fail
                have HT7 := Lib.hid (((HT6.out.put (a := k) (b := i) (by omega) (by omega) (decide (m < l))).drewN 1).same fun a b _ _ => ((by rw [HBT1.out, HBT2.out]) : _ = (if a = k ∧ b = i then bt ds k i else if a = i ∧ b = k then bt ds i k else btTo ds i k a b)).trans (btTo_step (by omega) a b))
                have HB8 := Lib.hid ((HB7.out.setCell (p := ⟨g' k, i, none⟩) (HT6.out.lo.2 k (by omega)) (.bool (decide (m < l)))).drew)
                have hwe1 : (we.setCell ⟨g' k, i, none⟩ (.bool (decide (m < l)))).drewN 1 = (we.setCell ⟨g' k, i, none⟩ (.bool (decide (m < l)))).drew := rfl
                rw [hwe1] at HT7
                clear hwe1
                try simp only [Int.ofNat_lt]
                go_roundg g1
                case measure => omega
                case rel => exact ⟨k + 1, by omega, by go_num, HT7, HB8⟩

end Go.Proofs.Ytkkholagmjcgiaa
