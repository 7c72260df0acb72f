/- The reference's function Check: the error of some lists, the same as the program's. -/
import Derived.Test.YtkkholagmjcgiaaRDie
namespace Go.Proofs.Ytkkholagmjcgiaa
open Go.RowKit

/-- Whether there are too many lists, or one of the first k is too long. -/
def longTo (ds : List (List Int)) (k : Nat) : Bool := decide (6 < ds.length) || (ds.take k).any fun d => decide (8 < d.length)
theorem longTo_succ {ds : List (List Int)} {k : Nat} {d : List Int} (h : ds[k]? = some d) : longTo ds (k + 1) = (longTo ds k || decide (8 < d.length)) := by
  unfold longTo
  rw [any_take_snoc _ ds k d h, Bool.or_assoc]
/-- What Check answers, by these words. -/
theorem checkL_by (ds : List (List Int)) : checkL ds = if longTo ds ds.length = true then 2 else if ds.length = 0 ∨ ds.all dieB = false then 10 else 0 := by
  have h1 : (longTo ds ds.length = true) = (6 < ds.length ∨ ds.any (fun d => decide (8 < d.length)) = true) := by
    unfold longTo
    rw [List.take_length, Bool.or_eq_true, decide_eq_true_eq]
  have h2 : (ds.all dieB = false) = (ds.any noDie = true) := by
    have e : ds.all dieB = !ds.any noDie := by
      rw [List.not_any_eq_all_not]
      congr 1
      funext d
      exact dieB_noDie d
    rw [e, Bool.not_eq_false']
  unfold checkL
  simp only [h1, h2]
theorem all_take_false {p : List Int → Bool} {ds : List (List Int)} {k : Nat} {d : List Int} (h : ds[k]? = some d) (hp : p d = false) : ds.all p = false := by
  rw [List.all_eq_false]
  exact ⟨d, List.mem_of_getElem? h, by simp [hp]⟩
theorem all_take_succ {p : List Int → Bool} {ds : List (List Int)} {k : Nat} {d : List Int} (h : ds[k]? = some d) (h0 : (ds.take k).all p = true) (hp : p d = true) : (ds.take (k + 1)).all p = true := by
  have hk := List.getElem?_eq_some_iff.1 h
  rw [List.take_succ_eq_append_getElem hk.1, hk.2, List.all_append, h0]
  simp [hp]

set_option maxRecDepth 100000 in
set_option maxHeartbeats 2000000 in
theorem RCheck_any (A : Option Addr) (ds : List (List Int)) (c B : Nat) (w : World) (hr : RDice w B A ds) (hl : ds.length ≤ 1000) (hd : ∀ d ∈ ds, d.length ≤ 1000) :
    Calls Try.prog 20 #[.slice A ds.length c] w fun e w' => e = .returned (.int .i64 (checkL ds)) ∧ ∃ n, w' = w.drewN n := by
  have HR := Lib.hid hr
  have HD := Lib.hid hd
  have HC := Lib.hid (checkL_by ds)
  clear hr hd
  have HL0 := Lib.hid (show longTo ds 0 = decide (6 < ds.length) by simp [longTo])
  go_enter Try.func20, Try.ntmps20
  go_wp2_with fail
  go_loopg [3, 4] ds.length (fun g lo i wx => ∃ k : Nat, k + g = ds.length ∧ i = .int .i64 k ∧ lo = .bool (longTo ds k) ∧ Hid (∃ n, w.drewN n = wx))
  case atStart => exact ⟨0, by omega, rfl, by rw [HL0.out]; exact congrArg Value.bool (by rw [decide_eq_decide]; omega), Lib.hid ⟨0, rfl⟩⟩
  case round =>
    obtain ⟨k, hk, rfl, rfl, HW⟩ := hrel
    obtain ⟨n0, hn0⟩ := HW.out
    clear HW
    subst hn0
    cases gk with
    | succ g =>
      obtain ⟨b, o, a, cc, d, hA, hb, hx, hcx, hdc, hrd⟩ := HR.out.at_ (k := k) (by omega)
      subst hA
      have HS := Lib.hid (longTo_succ hx)
      have hkl : (k : Int) < (ds.length : Int) := by omega
      have hk0 : (0 : Int) ≤ (k : Int) := by omega
      clear hx hrd
      cases hlo : longTo ds k
      · have HLO := Lib.hid hlo
        clear hlo
        go_wp2_with fail
        go_roundg g
        case measure => omega
        case rel => exact ⟨k + 1, by omega, by go_num, by rw [HS.out, HLO.out, Bool.false_or]; exact congrArg Value.bool (by rw [decide_eq_decide]; omega), Lib.hid ⟨_, rfl⟩⟩
      · have HLO := Lib.hid hlo
        clear hlo
        go_wp2_with fail
        go_roundg g
        case measure => omega
        case rel => exact ⟨k + 1, by omega, by go_num, by rw [HS.out, HLO.out]; rfl, Lib.hid ⟨_, rfl⟩⟩
    | zero =>
      obtain rfl : k = ds.length := by omega
      cases hlo : longTo ds ds.length
      · have HLO := Lib.hid hlo
        clear hlo
        go_wp2_with fail
        go_loopg [5] ds.length (fun g i wx => ∃ k : Nat, k + g = ds.length ∧ i = .int .i64 k ∧ Hid ((ds.take k).all dieB = true) ∧ Hid (∃ n, w.drewN n = wx))
        case atStart => exact ⟨0, by omega, rfl, Lib.hid (by simp), Lib.hid ⟨n0, rfl⟩⟩
        case round =>
          obtain ⟨k, hk2, rfl, HA, HW⟩ := hrel
          obtain ⟨n1, hn1⟩ := HW.out
          have HA2 := HA
          clear HW HA
          subst hn1
          cases gk with
          | succ g =>
            obtain ⟨b, o, a, cc, d, hA, hb, hx, hcx, hdc, hrd⟩ := HR.out.at_ (k := k) (by omega)
            subst hA
            have hdl := HD.out d (List.mem_of_getElem? hx)
            have hkl : (k : Int) < (ds.length : Int) := by omega
            have hk0 : (0 : Int) ≤ (k : Int) := by omega
            have HRD := Lib.hid hrd
            cases hb2 : dieB d
            · have HB := Lib.hid (all_take_false hx hb2)
              have HB2 := Lib.hid hb2
              clear hx hrd hb2
              go_wp2_with fail
              refine (RDie_any _ d cc B _ (HRD.out.drewN _) hdl).mono ?_
              rintro e w' ⟨rfl, n2, rfl⟩
              rw [HB2.out]
              go_wp2_with fail
              go_ret
              exact ⟨ret_int (by rw [HC.out, HLO.out, HB.out]; simp), n1 + n2, by simp⟩
            · have HB := Lib.hid (all_take_succ hx HA2.out hb2)
              have HB2 := Lib.hid hb2
              clear hx hrd hb2
              go_wp2_with fail
              refine (RDie_any _ d cc B _ (HRD.out.drewN _) hdl).mono ?_
              rintro e w' ⟨rfl, n2, rfl⟩
              rw [HB2.out]
              go_wp2_with fail
              go_roundg g
              case measure => omega
              case rel => exact ⟨k + 1, by omega, by go_num, HB, Lib.hid ⟨n1 + n2, by simp⟩⟩
          | zero =>
            obtain rfl : k = ds.length := by omega
            have HA3 := Lib.hid (show ds.all dieB = true by have := HA2.out; rwa [List.take_length] at this)
            clear HA2
            by_cases h0 : ds.length = 0
            · have hb0 : ((ds.length : Int) == 0) = true := by simp [h0]
              have H0 := Lib.hid h0
              clear h0
              go_wp2_with fail
              go_ret
              exact ⟨ret_int (by rw [HC.out, HLO.out, if_neg (by simp), if_pos (.inl H0.out)]), n1, rfl⟩
            · have hb0 : ((ds.length : Int) == 0) = false := by rw [beq_eq_false_iff_ne]; omega
              have H0 := Lib.hid h0
              clear h0
              go_wp2_with fail
              go_ret
              exact ⟨ret_int (by rw [HC.out, HLO.out, if_neg (by simp), if_neg (by rw [HA3.out]; simp; exact fun e => H0.out (by simp [e]))]), n1, rfl⟩
      · have HLO := Lib.hid hlo
        clear hlo
        go_wp2_with fail
        go_ret
        exact ⟨ret_int (by rw [HC.out, HLO.out]; rfl), n0, rfl⟩

end Go.Proofs.Ytkkholagmjcgiaa
