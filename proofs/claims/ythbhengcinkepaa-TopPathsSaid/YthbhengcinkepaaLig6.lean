/- The functions of package light on graphs: effects, solutions, the quiet basis, refutations; of what is no graph or no set the error. -/
import Derived.Test.YthbhengcinkepaaLig5
namespace Go.Proofs.Ythbhengcinkepaa.Lig
open Go.RowKit Lamp

theorem REdges.up {w W : World} {A : Option Addr} {l : List (Int × Int)} (h : REdges w w.heap.size A l) (hb : Below w.heap.size w W) : REdges W W.heap.size A l := (h.keep hb).more hb.size

theorem check1 (A : Option Addr) (n p : Int) (l : List (Int × Int)) (c : Nat) (w : World) (hr : REdges w w.heap.size A l) (hl : l.length ≤ 1000000) :
    Calls Try.prog 83 #[.int .i64 n, .slice A l.length c, .slice (some ⟨w.heap.size, 0, none⟩) 1 1] (w.alloc (Obj.cells #[.int .i64 p] 3)) fun e w' => e = .returned (.int .i64 (checkS n l [p])) ∧ Below w.heap.size w w' := by
  have hb : Below w.heap.size w (w.alloc (Obj.cells #[.int .i64 p] 3)) := (Below.refl _ _).alloc (Nat.le_refl _) _
  refine (check_any A (some ⟨w.heap.size, 0, none⟩) n l [p] 1 c 1 0 _ rfl (hr.up hb) hl (fun j u hu => ⟨w.heap.size, 0, rfl, by simp, ?_⟩) (by simp)).mono fun e w' h => ⟨h.1, hb.trans (h.2.mono hb.size)⟩
  rw [(Box.new w 3 _).cell]
  cases j with
  | zero => simpa using hu
  | succ j => simp at hu
theorem check0 (A : Option Addr) (n : Int) (l : List (Int × Int)) (c : Nat) (w : World) (hr : REdges w w.heap.size A l) (hl : l.length ≤ 1000000) :
    Calls Try.prog 83 #[.int .i64 n, .slice A l.length c, .slice none 0 0] w fun e w' => e = .returned (.int .i64 (checkS n l [])) ∧ Below w.heap.size w w' :=
  check_any A none n l [] 0 c 0 0 w rfl hr hl (fun j u hu => by simp at hu) (by simp)
theorem check2 (A : Option Addr) (n p q : Int) (l : List (Int × Int)) (c : Nat) (w : World) (hr : REdges w w.heap.size A l) (hl : l.length ≤ 1000000) :
    Calls Try.prog 83 #[.int .i64 n, .slice A l.length c, .slice (some ⟨w.heap.size, 0, none⟩) 2 2] (w.alloc (Obj.cells #[.int .i64 p, .int .i64 q] 3)) fun e w' => e = .returned (.int .i64 (checkS n l [p, q])) ∧ Below w.heap.size w w' := by
  have hb : Below w.heap.size w (w.alloc (Obj.cells #[.int .i64 p, .int .i64 q] 3)) := (Below.refl _ _).alloc (Nat.le_refl _) _
  refine (check_any A (some ⟨w.heap.size, 0, none⟩) n l [p, q] 2 c 2 0 _ rfl (hr.up hb) hl (fun j u hu => ⟨w.heap.size, 0, rfl, by simp, ?_⟩) (by simp)).mono fun e w' h => ⟨h.1, hb.trans (h.2.mono hb.size)⟩
  rw [(Box.new w 3 _).cell]
  match j with
  | 0 => simpa using hu
  | 1 => simpa using hu
  | j + 2 => simp at hu

/-- A graph of n lamps in memory. -/
structure Gr (w : World) (A : Option Addr) (n : Nat) (l : List (Int × Int)) : Prop where
  reads : REdges w w.heap.size A l
  len : l.length ≤ 1000000
  good : goodK n l l.length = true
  pos : 1 ≤ n
  most : n ≤ 16
theorem Gr.up {w W : World} {A : Option Addr} {n : Nat} {l : List (Int × Int)} (h : Gr w A n l) (hb : Below w.heap.size w W) : Gr W A n l := ⟨h.reads.up hb, h.len, h.good, h.pos, h.most⟩
/-- What each of the n lamps switches. -/
def grL (n : Nat) (l : List (Int × Int)) (own : Bool) : List Nat := (graphL n l own).take n
theorem graphL_len (n : Nat) (l : List (Int × Int)) (own : Bool) : (graphL n l own).length = 16 := by
  unfold graphL; split
  · rw [ownK_len, swK_len]
  · exact swK_len _ _
theorem grL_len {n : Nat} (hn : n ≤ 16) (l : List (Int × Int)) (own : Bool) : (grL n l own).length = n := by
  unfold grL; rw [List.length_take, graphL_len]; omega
theorem Gr.lt {w : World} {A : Option Addr} {n : Nat} {l : List (Int × Int)} (h : Gr w A n l) (own : Bool) : ∀ x ∈ graphL n l own, x < 65536 := by
  unfold graphL; split
  · exact ownK_lt (swK_lt h.most h.good _ (Nat.le_refl _)) n h.most
  · exact swK_lt h.most h.good _ (Nat.le_refl _)
theorem checkE_ok {n : Nat} {l : List (Int × Int)} (hg : goodK n l l.length = true) (h1 : 1 ≤ n) (h2 : n ≤ 16) : checkE n l = 0 := by
  unfold checkE; rw [if_neg (by omega), if_pos hg]
theorem inSet_nat {n p : Nat} (h : p < 2 ^ n) : inSet n p = true := by
  unfold inSet
  have h1 : ((2 ^ n : Nat) : Int) = (2 : Int) ^ n := by simp
  simp only [Bool.and_eq_true, decide_eq_true_eq, Int.toNat_natCast]
  omega
theorem Gr.check {w : World} {A : Option Addr} {n : Nat} {l : List (Int × Int)} (h : Gr w A n l) {xs : List Nat} (hx : ∀ x ∈ xs, x < 2 ^ n) : checkS n l (natV xs) = 0 := by
  unfold checkS
  rw [if_pos (checkE_ok h.good h.pos h.most), if_pos]
  rw [List.all_eq_true]
  intro y hy
  obtain ⟨x, hx', rfl⟩ := List.mem_map.1 hy
  exact inSet_nat (hx x hx')

theorem Gr.graphOf {w : World} {A : Option Addr} {n : Nat} {l : List (Int × Int)} (h : Gr w A n l) (c : Nat) (own : Bool) :
    Calls Try.prog 84 #[.int .i64 n, .slice A l.length c, .bool own] w fun e w' => e = .returned (.agg (gCells n (graphL n l own))) ∧ Below w.heap.size w w' :=
  graphOf_any A n l c own w h.reads h.len h.good h.most

set_option maxHeartbeats 1000000 in
theorem Effect_ok (A : Option Addr) (n p : Nat) (l : List (Int × Int)) (c : Nat) (own : Bool) (w : World) (h : Gr w A n l) (hp : p < 2 ^ n) :
    Calls Try.prog 48 #[.int .i64 n, .slice A l.length c, .bool own, .int .i64 p] w fun e w' => e = .returned (.tuple #[.int .i64 (comb p (grL n l own) : Nat), .int .i64 0]) ∧ Below w.heap.size w w' := by
  have H := Lib.hid h
  have HC := Lib.hid (h.check (xs := [p]) (by simpa using hp))
  have hp16 : p < 65536 := Nat.lt_of_lt_of_le hp (pow_split h.most)
  have HK := Lib.hid (check1 A n p l c w h.reads h.len)
  clear h hp
  go_enter Try.func48, Try.ntmps48
  go_wp2_with fail
  refine HK.out.mono ?_
  rintro e w1 ⟨rfl, hb1⟩
  have HB1 := Lib.hid hb1
  rw [show checkS n l [(p : Int)] = 0 from HC.out]
  clear hb1
  go_wp2_with fail
  refine ((H.out.up HB1.out).graphOf c own).mono ?_
  rintro e w2 ⟨rfl, hb2⟩
  have HB2 := Lib.hid (HB1.out.trans (hb2.mono HB1.out.size))
  clear hb2
  go_wp2_with fail
  refine (effect_any n p (graphL n l own) w2 (graphL_len n l own) H.out.most (H.out.lt own) hp16).mono ?_
  rintro e w3 ⟨rfl, hb3⟩
  have HB3 := Lib.hid (HB2.out.trans (hb3.mono HB2.out.size))
  clear hb3
  go_wp2_with fail
  go_ret2
  exact ⟨rfl, HB3.out⟩

theorem ownsB_base {w : World} {b b' : Nat} {v : Value} {zs : List Int} (h : OwnB w b v zs) (hb : b' ≤ b) : OwnB w b' v zs := by
  refine ⟨h.1, ?_⟩
  rcases h.2 with h1 | ⟨g, cap, cur, e, h2, h3⟩
  · exact .inl h1
  · exact .inr ⟨g, cap, cur, e, Nat.le_trans hb h2, h3⟩
/-- The quiet basis. -/
def quietL (sw : List Nat) : List Nat := (redAll sw sw.length).2
set_option maxHeartbeats 1000000 in
theorem Quiet_ok (A : Option Addr) (n : Nat) (l : List (Int × Int)) (c : Nat) (own : Bool) (w : World) (h : Gr w A n l) :
    Calls Try.prog 47 #[.int .i64 n, .slice A l.length c, .bool own] w fun e w' => ∃ v, e = .returned (.tuple #[v, .int .i64 0]) ∧ OwnB w' w.heap.size v (natV (quietL (grL n l own))) ∧ Below w.heap.size w w' := by
  have H := Lib.hid h
  have HC := Lib.hid (h.check (xs := []) (by simp))
  have HK := Lib.hid (check0 A n l c w h.reads h.len)
  clear h
  go_enter Try.func47, Try.ntmps47
  go_wp2_with fail
  refine HK.out.mono ?_
  rintro e w1 ⟨rfl, hb1⟩
  have HB1 := Lib.hid hb1
  rw [show checkS n l [] = 0 from HC.out]
  clear hb1
  go_wp2_with fail
  refine ((H.out.up HB1.out).graphOf c own).mono ?_
  rintro e w2 ⟨rfl, hb2⟩
  have HB2 := Lib.hid (HB1.out.trans (hb2.mono HB1.out.size))
  clear hb2
  go_wp2_with fail
  refine (reduction_any n (graphL n l own) w2 (graphL_len n l own) H.out.most (H.out.lt own)).mono ?_
  rintro e w3 ⟨v, rfl, ho, _, hb3⟩
  have HB3 := Lib.hid (HB2.out.trans (hb3.mono HB2.out.size))
  have HO := Lib.hid ho
  clear hb3 ho
  go_wp2_with fail
  go_ret2
  refine ⟨v, rfl, ?_, HB3.out⟩
  have h1 := HO.out
  have h2 : quietL (grL n l own) = (redAll (List.take n (graphL n l own)) n).2 := by unfold quietL; rw [grL_len H.out.most]; rfl
  rw [h2]
  exact ownsB_base h1 HB2.out.size

theorem reduce_of (g p r : Nat) (R : List Nat) (w : World) (hb : Box w g 183 (rCells R)) (hR : TabOk R) (hbig : ∀ k, R.getD k 0 < 4294967296) (hp : p < 4294967296) (h : redF R p = r) :
    Calls Try.prog 131 #[.int .u32 p, .pointer (some ⟨g, 0, none⟩)] w fun e w' => e = .returned (.int .u32 (r : Nat)) ∧ w = w' := by
  subst h; exact reduce_any g p R w hb hR hbig hp
/-- A set whose effect is the target, if there is one. -/
def solveL (sw : List Nat) (t : Nat) : Bool × Nat :=
  let r := redF (redAll sw sw.length).1 (rowV 0 t)
  if r / 65536 = 0 then (true, r % 65536) else (false, 0)
def foundV (b : Bool × Nat) : Value := .agg #[.bool b.1, .int .i64 (b.2 : Nat)]

theorem pow_w {k : Nat} (h : k ≤ 16) : wrap64 (2 ^ k) = ((2 ^ k : Nat) : Int) := by
  have h1 := pow_int h
  have h2 : ((2 ^ k : Nat) : Int) = (2 : Int) ^ k := by simp
  rw [h2]; exact w64 (by omega)
theorem OwnB.form {w : World} {b : Nat} {v : Value} {zs : List Int} (h : OwnB w b v zs) : ∃ A c, v = .slice A zs.length c := by
  rcases h.2 with ⟨rfl, h1⟩ | ⟨g, cap, cur, e, _⟩
  · exact ⟨none, 0, by rw [h1]⟩
  · exact ⟨_, cap, e⟩
def oddB (x : Nat) : Bool := decide (popc x % 2 = 1)
theorem isOdd_of {x : Nat} {b : Bool} (a : Int) (w : World) (ha : a = (x : Int)) (h : x < 65536) (hb : oddB x = b) :
    Calls Try.prog 147 #[.int .i64 a] w fun e w' => e = .returned (.bool b) ∧ w = w' := by
  subst ha hb; exact isOdd_any x w h
/-- The first quiet set that refutes a target. -/
def refuteL (Q : List Nat) (t : Nat) : Bool × Nat := match Q.find? fun q => oddB (q &&& t) with
  | some q => (true, q)
  | none => (false, 0)
theorem refute_none {Q : List Nat} {t : Nat} (h : ∀ q ∈ Q, oddB (q &&& t) = false) : refuteL Q t = (false, 0) := by
  unfold refuteL
  rw [List.find?_eq_none.2 (fun q hq => by rw [h q hq]; decide)]
theorem refute_some {Q : List Nat} {t k q : Nat} (h : ∀ j, j < k → oddB (Q.getD j 0 &&& t) = false) (hk : Q[k]? = some q) (hq : oddB (q &&& t) = true) : refuteL Q t = (true, q) := by
  unfold refuteL
  have : (Q.find? fun q => oddB (q &&& t)) = some q := by
    rw [List.find?_eq_some_iff_getElem]
    have hk' := List.getElem?_eq_some_iff.1 hk
    refine ⟨hq, k, hk'.1, hk'.2, fun j hj => ?_⟩
    have h1 := h j hj
    rw [List.getD_eq_getElem?_getD, List.getElem?_eq_getElem (Nat.lt_trans hj hk'.1)] at h1
    simpa using h1
  rw [this]
theorem OwnB.reads {w : World} {b : Nat} {v : Value} {zs : List Int} (h : OwnB w b v zs) : ∃ A c, v = .slice A zs.length c ∧ RInts w w.heap.size A zs := by
  rcases h.2 with ⟨rfl, h1⟩ | ⟨g, cap, cur, e, hb, hh, h2, h3, h4⟩
  · exact ⟨none, 0, by rw [h1], fun j u hu => by rw [List.length_eq_zero_iff.1 h1] at hu; simp at hu⟩
  · refine ⟨_, cap, e, fun j u hu => ?_⟩
    have hbx : Box w g 3 cur := hh
    refine ⟨g, 0, rfl, hbx.lt, ?_⟩
    rw [Nat.zero_add, hbx.cell j]
    have hj : j < zs.length := by
      have := (List.getElem?_eq_some_iff.1 hu).1
      simpa using this
    have h5 := congrArg (fun l => l[j]?) h4.2
    simp only [Nat.mul_one] at h5
    rw [← hu, ← h5]
    simp only [List.getElem?_take]
    rw [if_pos (by omega)]
    simp

set_option maxHeartbeats 1000000 in
theorem refute_any (n t : Nat) (sw : List Nat) (w : World) (hl : sw.length = 16) (hn : n ≤ 16) (hs : ∀ x ∈ sw, x < 65536) (ht : t < 65536) :
    Calls Try.prog 97 #[.agg (gCells n sw), .int .i64 t] w fun e w' => e = .returned (foundV (refuteL (quietL (sw.take n)) t)) ∧ Below w.heap.size w w' := by
  have hT : (sw.take n).length = n := by rw [List.length_take, hl]; omega
  have hTS : ∀ x ∈ sw.take n, x < 65536 := fun x hx => hs x (List.mem_of_mem_take hx)
  have hI := Inv.all_ (sw.take n) (by rw [hT]; exact hn) hTS n (by rw [hT]; omega)
  obtain ⟨Q, hQ⟩ : ∃ Q, (redAll (sw.take n) n).2 = Q := ⟨_, rfl⟩
  have HQ := Lib.hid (show quietL (sw.take n) = Q by unfold quietL; rw [hT]; exact hQ)
  rw [hQ] at hI
  have HQL := Lib.hid (show ∀ q ∈ Q, q < 65536 from fun q hq => Nat.lt_of_lt_of_le (hI.quiet q hq).2.1 (pow_split hn))
  have hlen := redAll_len (sw.take n) n
  rw [hQ] at hlen
  have HQE := Lib.hid hQ
  have HL := Lib.hid hl
  have HS := Lib.hid hs
  clear hT hTS hI hl hs hQ
  rw [HQ.out]
  go_enter Try.func97, Try.ntmps97
  go_wp2_with (refine wpList_load_row rfl 136 _ rfl w.heap.size rfl 136 (gCells n sw) (0, 0) _ ((Box.new w _ _).alloc _) Try.underlying136 rfl (by rw [gCells_size, HL.out]; kernel_rfl) ?_)
  refine (reduction_any n sw _ HL.out hn HS.out).mono ?_
  rintro e w1 ⟨v, rfl, ho, hbx, hb⟩
  have HB := Lib.hid (show Below w.heap.size w w1 from (((Below.refl _ _).alloc (Nat.le_refl _) _).alloc (by simp) _).trans (hb.mono (by simp; omega)))
  rw [HQE.out] at ho
  obtain ⟨V, cv, hv, hri⟩ := ho.reads
  rw [natV_len] at hv
  subst hv
  have HRI := Lib.hid hri
  have HF := Lib.hid (show Box w1 (w.heap.size + 1) 153 #[.bool false, .int .i64 0] from by
    have h1 := (Box.new (w.alloc (Obj.cells (gCells n sw) 136)) 153 #[.bool false, .int .i64 0]).below hb (by simp)
    rw [show (w.alloc (Obj.cells (gCells n sw) 136)).heap.size = w.heap.size + 1 by simp] at h1
    exact h1)
  clear ho hbx hb hri
  go_wp2_with fail
  go_loop [16] (fun i => ∃ k : Nat, i = .int .i64 k ∧ k ≤ Q.length ∧ Hid (∀ j, j < k → oddB (Q.getD j 0 &&& t) = false)) (fun i => Q.length - (intOf i).toNat)
  case atStart => exact ⟨0, rfl, by omega, Lib.hid (fun j hj => by omega)⟩
  case round =>
    obtain ⟨k, rfl, hk, HN1⟩ := hrel
    have HN := HN1
    clear HN1
    by_cases hlt : k < Q.length
    · obtain ⟨bb, oo, x, hA, hb, hx, hcx⟩ := HRI.out.at_ (k := k) (by rw [natV_len]; exact hlt)
      subst hA
      obtain ⟨q, rfl, HY⟩ : ∃ q : Nat, x = (q : Int) ∧ Hid (Q[k]? = some q) := by
        have h1 := natV_at hx
        refine ⟨Q.getD k 0, h1.1, Lib.hid ?_⟩
        rw [List.getD_eq_getElem?_getD, List.getElem?_eq_getElem hlt]; rfl
      have HGD := Lib.hid (show Q.getD k 0 = q by rw [List.getD_eq_getElem?_getD, HY.out]; rfl)
      have HQ16 := Lib.hid (show q < 65536 from HQL.out q (List.mem_of_getElem? HY.out))
      have HAND := Lib.hid (i64_and q t (by have := HQ16.out; omega) (by omega))
      have HANL := Lib.hid (show q &&& t < 65536 from Nat.lt_of_le_of_lt Nat.and_le_left HQ16.out)
      clear hx
      cases hod : oddB (q &&& t)
      · have HOD := Lib.hid hod
        clear hod
        go_wp2_with (go_at_call 147; refine (isOdd_of _ _ HAND.out HANL.out HOD.out).mono ?_; rintro e w' ⟨rfl, rfl⟩)
        go_round
        case rel =>
          refine ⟨k + 1, by go_num, by omega, Lib.hid fun j hj => ?_⟩
          by_cases e : j = k
          · rw [e, HGD.out]; exact HOD.out
          · exact HN.out j (by omega)
        case measure => simp [intOf]; omega
      · have HOD := Lib.hid hod
        have HE := Lib.hid (refute_some HN.out HY.out hod)
        have f0 := HF.out.cell 0
        have f1 := HF.out.cell 1
        have ff0 := HF.out.free 0
        have ff1 := HF.out.free 1
        simp only [List.getElem?_toArray, List.getElem?_cons_zero, List.getElem?_cons_succ] at f0 f1
        clear hod
        go_wp2_with (go_at_call 147; refine (isOdd_of _ _ HAND.out HANL.out HOD.out).mono ?_; rintro e w' ⟨rfl, rfl⟩)
        rw [HE.out]
        refine bodyPost_ret (v := .agg #[.bool true, .int .i64 (q : Nat)]) (by simp [results, Try.results97, go_sem, f0, f1]) rfl ⟨rfl, ?_⟩
        exact (HB.out.setCell (p := ⟨w.heap.size + 1, 0, none⟩) (Nat.le_succ _) _).setCell (p := ⟨w.heap.size + 1, 1, none⟩) (Nat.le_succ _) _
    · obtain rfl : k = Q.length := by omega
      have HE := Lib.hid (refute_none (Q := Q) (t := t) (fun q hq => by
        obtain ⟨j, hj, rfl⟩ := List.getElem_of_mem hq
        have h1 := HN.out j hj
        rw [List.getD_eq_getElem?_getD, List.getElem?_eq_getElem hj] at h1
        exact h1))
      have f0 := HF.out.cell 0
      have f1 := HF.out.cell 1
      have ff0 := HF.out.free 0
      have ff1 := HF.out.free 1
      simp only [List.getElem?_toArray, List.getElem?_cons_zero, List.getElem?_cons_succ] at f0 f1
      go_wp2_with fail
      rw [HE.out]
      refine bodyPost_ret (v := .agg #[.bool false, .int .i64 0]) (by simp [results, Try.results97, go_sem, f0, f1]) rfl ⟨rfl, ?_⟩
      exact (HB.out.setCell (p := ⟨w.heap.size + 1, 0, none⟩) (Nat.le_succ _) _).setCell (p := ⟨w.heap.size + 1, 1, none⟩) (Nat.le_succ _) _
end Go.Proofs.Ythbhengcinkepaa.Lig
