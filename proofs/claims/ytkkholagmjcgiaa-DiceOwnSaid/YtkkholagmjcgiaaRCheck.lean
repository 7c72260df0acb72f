/- The reference's function Die: whether the numbers of a list are in range and do not fall, and there is one. · The reference's function Check: the error of some lists, the same as the program's. -/
import Derived.Test.YtkkholagmjcgiaaCheck
import Derived.IntWalk
import Derived.Deep.LoopGhost
import Derived.Deep.RegionHeld3
import Derived.Deep.DeepCutAuto
namespace Go.Proofs.Ytkkholagmjcgiaa
open Go.RowKit

/-- Whether number i of a list is in range and not below the one before it. -/
def okAt (l : List Int) (i : Nat) : Bool := decide (0 ≤ l.getD i 0) && decide (l.getD i 0 ≤ 60) && (decide (i = 0) || decide (l.getD (i - 1) 0 ≤ l.getD i 0))
def dieTo (l : List Int) (k : Nat) : Bool := (List.range k).all (okAt l)
def dieB (l : List Int) : Bool := dieTo l l.length && decide (0 < l.length)
theorem dieTo_succ (l : List Int) (k : Nat) : dieTo l (k + 1) = (dieTo l k && okAt l k) := by simp [dieTo, List.range_succ]
theorem dieTo_iff (l : List Int) (k : Nat) : dieTo l k = true ↔ ∀ i, i < k → okAt l i = true := by simp [dieTo, List.all_eq_true]
theorem dieTo_one {l : List Int} {x : Int} (h : l.getD 0 0 = x) (h0 : 0 ≤ x) (h6 : x ≤ 60) : dieTo l 1 = true := by
  rw [dieTo_iff]
  intro i hi
  obtain rfl : i = 0 := by omega
  unfold okAt
  rw [h, decide_eq_true h0, decide_eq_true h6]
  rfl
theorem dieTo_next {l : List Int} {k : Nat} {x y : Int} (h : dieTo l (k + 1) = true) (hx : l.getD (k + 1) 0 = x) (hy : l.getD (k + 1 - 1) 0 = y) (h0 : 0 ≤ x) (h6 : x ≤ 60) (hyx : y ≤ x) : dieTo l (k + 1 + 1) = true := by
  rw [dieTo_succ, h]
  unfold okAt
  rw [hx, hy, decide_eq_true h0, decide_eq_true h6, decide_eq_true hyx]
  simp
theorem okAt_low {l : List Int} {k : Nat} {x : Int} (hx : l.getD k 0 = x) (h0 : x < 0) : okAt l k = false := by
  unfold okAt
  rw [hx, decide_eq_false (show ¬ 0 ≤ x by omega)]
  rfl
theorem okAt_high {l : List Int} {k : Nat} {x : Int} (hx : l.getD k 0 = x) (h0 : 60 < x) : okAt l k = false := by
  unfold okAt
  rw [hx, decide_eq_false (show ¬ x ≤ 60 by omega)]
  simp
theorem okAt_fall {l : List Int} {k : Nat} {x y : Int} (hx : l.getD (k + 1) 0 = x) (hy : l.getD (k + 1 - 1) 0 = y) (h0 : x < y) : okAt l (k + 1) = false := by
  unfold okAt
  rw [hx, hy, decide_eq_false (show ¬ y ≤ x by omega)]
  simp
theorem okAt_iff {l : List Int} {i : Nat} : okAt l i = true ↔ 0 ≤ l.getD i 0 ∧ l.getD i 0 ≤ 60 ∧ (i = 0 ∨ l.getD (i - 1) 0 ≤ l.getD i 0) := by
  unfold okAt
  simp only [Bool.and_eq_true, Bool.or_eq_true, decide_eq_true_eq, and_assoc]
theorem sortTo_iff (d : List Int) : ∀ k, sortTo d k = true ↔ ∀ j, j < k → d.getD j 0 ≤ d.getD (j + 1) 0
  | 0 => by simp [sortTo]
  | k + 1 => by
    rw [sortTo, Bool.and_eq_true, sortTo_iff d k, decide_eq_true_eq]
    constructor
    · rintro ⟨h1, h2⟩ j hj
      rcases Nat.lt_or_ge j k with h | h
      · exact h1 j h
      · obtain rfl : j = k := by omega
        exact h2
    · intro h
      exact ⟨fun j hj => h j (by omega), h k (by omega)⟩
theorem sort_mono {d : List Int} {n : Nat} (h : ∀ j, j < n → d.getD j 0 ≤ d.getD (j + 1) 0) (i : Nat) : ∀ k, i + k ≤ n → d.getD i 0 ≤ d.getD (i + k) 0
  | 0, _ => Int.le_refl _
  | k + 1, hk => Int.le_trans (sort_mono h i k (by omega)) (h (i + k) (by omega))
/-- What the reference calls a die is what isNoDie denies. -/
theorem dieB_noDie (d : List Int) : dieB d = !noDie d := by
  have hl : d.isEmpty = decide (d.length = 0) := by cases d <;> simp
  rw [Bool.eq_iff_iff]
  unfold dieB noDie sortB
  rw [hl, Bool.and_eq_true, dieTo_iff, decide_eq_true_eq]
  simp only [Bool.not_eq_true', Bool.or_eq_false_iff, decide_eq_false_iff_not, Bool.not_eq_false']
  rw [sortTo_iff]
  constructor
  · rintro ⟨h, hp⟩
    have h0 := okAt_iff.1 (h 0 hp)
    have h1 := okAt_iff.1 (h (d.length - 1) (by omega))
    refine ⟨⟨⟨by omega, fun j hj => ?_⟩, by omega⟩, by omega⟩
    have := okAt_iff.1 (h (j + 1) (by omega))
    rw [Nat.add_sub_cancel] at this
    omega
  · rintro ⟨⟨⟨hp, hs⟩, h0⟩, h6⟩
    refine ⟨fun i hi => okAt_iff.2 ?_, by omega⟩
    have m1 := sort_mono hs 0 i (by omega)
    have m2 := sort_mono hs i (d.length - 1 - i) (by omega)
    rw [Nat.zero_add] at m1
    rw [show i + (d.length - 1 - i) = d.length - 1 by omega] at m2
    refine ⟨by omega, by omega, ?_⟩
    cases i with
    | zero => exact .inl rfl
    | succ i => exact .inr (hs i (by omega))
theorem dieTo_not {l : List Int} {k : Nat} (h : dieTo l k = false) : ∀ j, dieTo l (k + j) = false
  | 0 => h
  | j + 1 => by rw [← Nat.add_assoc, dieTo_succ, dieTo_not h j]; rfl

set_option maxRecDepth 100000 in
set_option maxHeartbeats 2000000 in
theorem RDie_any (A : Option Addr) (l : List Int) (c B : Nat) (w : World) (hr : RInts w B A l) (hl : l.length ≤ 1000) :
    Calls Try.prog 56 #[.slice A l.length c] w fun e w' => e = .returned (.bool (dieB l)) ∧ ∃ n, w' = w.drewN n := by
  have HR := Lib.hid hr
  clear hr
  go_enter Try.func56, Try.ntmps56
  go_wp2_with fail
  go_loopg [3] l.length (fun g i wx => ∃ k : Nat, k + g = l.length ∧ i = .int .i64 k ∧ Hid (dieTo l k = true) ∧ Hid (∃ n, w.drewN n = wx))
  case atStart => exact ⟨0, by omega, rfl, Lib.hid rfl, Lib.hid ⟨0, rfl⟩⟩
  case round =>
    obtain ⟨k, hk, rfl, HF, HW⟩ := hrel
    have HF2 := HF
    obtain ⟨n0, hn0⟩ := HW.out
    clear HF HW
    subst hn0
    cases gk with
    | zero =>
      obtain rfl : k = l.length := by omega
      have HE := Lib.hid (show dieB l = decide (0 < l.length) by unfold dieB; rw [HF2.out]; rfl)
      go_wp2_with fail
      go_ret
      exact ⟨ret_bool (by rw [HE.out]; try simp), n0, rfl⟩
    | succ g =>
      have HBAD := Lib.hid (fun (h : okAt l k = false) => show dieB l = false by
        have h1 : dieTo l (k + 1) = false := by rw [dieTo_succ, h]; simp
        have h2 := dieTo_not h1 (l.length - (k + 1))
        rw [show k + 1 + (l.length - (k + 1)) = l.length by omega] at h2
        unfold dieB
        rw [h2]
        rfl)
      cases k with
      | zero =>
        obtain ⟨b, o, x, hA, hb, hx, hcx⟩ := HR.out.at_ (k := 0) (by omega)
        subst hA
        have HX := Lib.hid (show l.getD 0 0 = x by simp [List.getD, hx])
        have hkl : (0 : Int) < (l.length : Int) := by omega
        rw [Nat.add_zero] at hcx
        rw [show ((0 : Nat) : Int) = 0 from rfl]
        clear hx
        by_cases h0 : x < 0
        · have HB := Lib.hid (HBAD.out (okAt_low HX.out h0))
          go_wp2_with fail
          go_quiet (fail)
          go_wp2_with fail
          go_ret
          exact ⟨ret_bool HB.out.symm, n0 + nq, by simp⟩
        · have hd0 : decide (x < 0) = false := decide_eq_false h0
          by_cases h6 : 60 < x
          · have HB := Lib.hid (HBAD.out (okAt_high HX.out h6))
            go_wp2_with fail
            go_quiet (fail)
            go_wp2_with fail
            go_ret
            exact ⟨ret_bool HB.out.symm, n0 + nq, by simp⟩
          · have hd6 : decide (60 < x) = false := decide_eq_false h6
            have HO := Lib.hid (dieTo_one HX.out (by omega) (by omega))
            go_wp2_with fail
            go_quiet (fail)
            go_wp2_with fail
            go_roundg g
            case measure => omega
            case rel => exact ⟨1, by omega, rfl, HO, Lib.hid ⟨n0 + nq, by simp⟩⟩
      | succ k =>
        obtain ⟨b, o, x, hA, hb, hx, hcx⟩ := HR.out.at_ (k := k + 1) (by omega)
        subst hA
        obtain ⟨_, _, y, hA2, _, hy, hcy⟩ := HR.out.at_ (k := k) (by omega)
        cases hA2
        have HX := Lib.hid (show l.getD (k + 1) 0 = x by simp [List.getD, hx])
        have HY := Lib.hid (show l.getD (k + 1 - 1) 0 = y by simp [List.getD, hy])
        have hkl : ((k + 1 : Nat) : Int) < (l.length : Int) := by omega
        have hkp : (0 : Int) < ((k + 1 : Nat) : Int) := by omega
        have hkl2 : (k : Int) < (l.length : Int) := by omega
        have hk00 : (0 : Int) ≤ (k : Int) := by omega
        have hkw : IntKind.i64.wrap (k : Int) = (k : Int) := IntWalk.i64_in _ (by omega)
        clear hx hy
        by_cases h0 : x < 0
        · have HB := Lib.hid (HBAD.out (okAt_low HX.out h0))
          go_wp2_with fail
          go_quiet (fail)
          go_wp2_with fail
          go_ret
          exact ⟨ret_bool HB.out.symm, n0 + nq, by simp⟩
        · have hd0 : decide (x < 0) = false := decide_eq_false h0
          by_cases h6 : 60 < x
          · have HB := Lib.hid (HBAD.out (okAt_high HX.out h6))
            go_wp2_with fail
            go_quiet (fail)
            go_wp2_with fail
            go_ret
            exact ⟨ret_bool HB.out.symm, n0 + nq, by simp⟩
          · have hd6 : decide (60 < x) = false := decide_eq_false h6
            by_cases hyx : x < y
            · have HB := Lib.hid (HBAD.out (okAt_fall HX.out HY.out hyx))
              go_wp2_with fail
              go_quiet (fail)
              go_wp2_with fail
              go_ret
              exact ⟨ret_bool HB.out.symm, n0 + nq, by simp⟩
            · have hdy : decide (x < y) = false := decide_eq_false hyx
              have HO := Lib.hid (dieTo_next HF2.out HX.out HY.out (by omega) (by omega) (by omega))
              go_wp2_with fail
              go_quiet (fail)
              go_wp2_with fail
              clear hkw
              go_roundg g
              case measure => omega
              case rel => exact ⟨k + 1 + 1, by omega, by go_num, HO, Lib.hid ⟨n0 + nq, by simp⟩⟩

end Go.Proofs.Ytkkholagmjcgiaa

namespace Go.Proofs.Ytkkholagmjcgiaa
open Go.RowKit

/-- Whether there are too many lists, or one of the first k is too long. -/
def longTo (ds : List (List Int)) (k : Nat) : Bool := decide (6 < ds.length) || (ds.take k).any fun d => decide (8 < d.length)
theorem longTo_succ {ds : List (List Int)} {k : Nat} {d : List Int} (h : ds[k]? = some d) : longTo ds (k + 1) = (longTo ds k || decide (8 < d.length)) := by
  unfold longTo
  rw [any_take_snoc _ ds k d h, Bool.or_assoc]
/-- What Check answers, by these words. -/
theorem checkL_by (ds : List (List Int)) : checkL ds = if longTo ds ds.length = true then 2 else if ds.length = 0 ∨ ds.all dieB = false then 10 else 0 := by
  have h1 : (longTo ds ds.length = true) = (6 < ds.length ∨ ds.any (fun d => decide (8 < d.length)) = true) := by
    unfold longTo
    rw [List.take_length, Bool.or_eq_true, decide_eq_true_eq]
  have h2 : (ds.all dieB = false) = (ds.any noDie = true) := by
    have e : ds.all dieB = !ds.any noDie := by
      rw [List.not_any_eq_all_not]
      congr 1
      funext d
      exact dieB_noDie d
    rw [e, Bool.not_eq_false']
  unfold checkL
  simp only [h1, h2]
theorem all_take_false {p : List Int → Bool} {ds : List (List Int)} {k : Nat} {d : List Int} (h : ds[k]? = some d) (hp : p d = false) : ds.all p = false := by
  rw [List.all_eq_false]
  exact ⟨d, List.mem_of_getElem? h, by simp [hp]⟩
theorem all_take_succ {p : List Int → Bool} {ds : List (List Int)} {k : Nat} {d : List Int} (h : ds[k]? = some d) (h0 : (ds.take k).all p = true) (hp : p d = true) : (ds.take (k + 1)).all p = true := by
  have hk := List.getElem?_eq_some_iff.1 h
  rw [List.take_succ_eq_append_getElem hk.1, hk.2, List.all_append, h0]
  simp [hp]

set_option maxRecDepth 100000 in
set_option maxHeartbeats 2000000 in
theorem RCheck_any (A : Option Addr) (ds : List (List Int)) (c B : Nat) (w : World) (hr : RDice w B A ds) (hl : ds.length ≤ 1000) (hd : ∀ d ∈ ds, d.length ≤ 1000) :
    Calls Try.prog 20 #[.slice A ds.length c] w fun e w' => e = .returned (.int .i64 (checkL ds)) ∧ ∃ n, w' = w.drewN n := by
  have HR := Lib.hid hr
  have HD := Lib.hid hd
  have HC := Lib.hid (checkL_by ds)
  clear hr hd
  have HL0 := Lib.hid (show longTo ds 0 = decide (6 < ds.length) by simp [longTo])
  go_enter Try.func20, Try.ntmps20
  go_wp2_with fail
  go_loopg [3, 4] ds.length (fun g lo i wx => ∃ k : Nat, k + g = ds.length ∧ i = .int .i64 k ∧ lo = .bool (longTo ds k) ∧ Hid (∃ n, w.drewN n = wx))
  case atStart => exact ⟨0, by omega, rfl, by rw [HL0.out]; exact congrArg Value.bool (by rw [decide_eq_decide]; omega), Lib.hid ⟨0, rfl⟩⟩
  case round =>
    obtain ⟨k, hk, rfl, rfl, HW⟩ := hrel
    obtain ⟨n0, hn0⟩ := HW.out
    clear HW
    subst hn0
    cases gk with
    | succ g =>
      obtain ⟨b, o, a, cc, d, hA, hb, hx, hcx, hdc, hrd⟩ := HR.out.at_ (k := k) (by omega)
      subst hA
      have HS := Lib.hid (longTo_succ hx)
      have hkl : (k : Int) < (ds.length : Int) := by omega
      have hk0 : (0 : Int) ≤ (k : Int) := by omega
      clear hx hrd
      cases hlo : longTo ds k
      · have HLO := Lib.hid hlo
        clear hlo
        go_wp2_with fail
        go_roundg g
        case measure => omega
        case rel => exact ⟨k + 1, by omega, by go_num, by rw [HS.out, HLO.out, Bool.false_or]; exact congrArg Value.bool (by rw [decide_eq_decide]; omega), Lib.hid ⟨_, rfl⟩⟩
      · have HLO := Lib.hid hlo
        clear hlo
        go_wp2_with fail
        go_roundg g
        case measure => omega
        case rel => exact ⟨k + 1, by omega, by go_num, by rw [HS.out, HLO.out]; rfl, Lib.hid ⟨_, rfl⟩⟩
    | zero =>
      obtain rfl : k = ds.length := by omega
      cases hlo : longTo ds ds.length
      · have HLO := Lib.hid hlo
        clear hlo
        go_wp2_with fail
        go_loopg [5] ds.length (fun g i wx => ∃ k : Nat, k + g = ds.length ∧ i = .int .i64 k ∧ Hid ((ds.take k).all dieB = true) ∧ Hid (∃ n, w.drewN n = wx))
        case atStart => exact ⟨0, by omega, rfl, Lib.hid (by simp), Lib.hid ⟨n0, rfl⟩⟩
        case round =>
          obtain ⟨k, hk2, rfl, HA, HW⟩ := hrel
          obtain ⟨n1, hn1⟩ := HW.out
          have HA2 := HA
          clear HW HA
          subst hn1
          cases gk with
          | succ g =>
            obtain ⟨b, o, a, cc, d, hA, hb, hx, hcx, hdc, hrd⟩ := HR.out.at_ (k := k) (by omega)
            subst hA
            have hdl := HD.out d (List.mem_of_getElem? hx)
            have hkl : (k : Int) < (ds.length : Int) := by omega
            have hk0 : (0 : Int) ≤ (k : Int) := by omega
            have HRD := Lib.hid hrd
            cases hb2 : dieB d
            · have HB := Lib.hid (all_take_false hx hb2)
              have HB2 := Lib.hid hb2
              clear hx hrd hb2
              go_wp2_with fail
              refine (RDie_any _ d cc B _ (HRD.out.drewN _) hdl).mono ?_
              rintro e w' ⟨rfl, n2, rfl⟩
              rw [HB2.out]
              go_wp2_with fail
              go_ret
              exact ⟨ret_int (by rw [HC.out, HLO.out, HB.out]; simp), n1 + n2, by simp⟩
            · have HB := Lib.hid (all_take_succ hx HA2.out hb2)
              have HB2 := Lib.hid hb2
              clear hx hrd hb2
              go_wp2_with fail
              refine (RDie_any _ d cc B _ (HRD.out.drewN _) hdl).mono ?_
              rintro e w' ⟨rfl, n2, rfl⟩
              rw [HB2.out]
              go_wp2_with fail
              go_roundg g
              case measure => omega
              case rel => exact ⟨k + 1, by omega, by go_num, HB, Lib.hid ⟨n1 + n2, by simp⟩⟩
          | zero =>
            obtain rfl : k = ds.length := by omega
            have HA3 := Lib.hid (show ds.all dieB = true by have := HA2.out; rwa [List.take_length] at this)
            clear HA2
            by_cases h0 : ds.length = 0
            · have hb0 : ((ds.length : Int) == 0) = true := by simp [h0]
              have H0 := Lib.hid h0
              clear h0
              go_wp2_with fail
              go_ret
              exact ⟨ret_int (by rw [HC.out, HLO.out, if_neg (by simp), if_pos (.inl H0.out)]), n1, rfl⟩
            · have hb0 : ((ds.length : Int) == 0) = false := by rw [beq_eq_false_iff_ne]; omega
              have H0 := Lib.hid h0
              clear h0
              go_wp2_with fail
              go_ret
              exact ⟨ret_int (by rw [HC.out, HLO.out, if_neg (by simp), if_neg (by rw [HA3.out]; simp; exact fun e => H0.out (by simp [e]))]), n1, rfl⟩
      · have HLO := Lib.hid hlo
        clear hlo
        go_wp2_with fail
        go_ret
        exact ⟨ret_int (by rw [HC.out, HLO.out]; rfl), n0, rfl⟩

end Go.Proofs.Ytkkholagmjcgiaa
