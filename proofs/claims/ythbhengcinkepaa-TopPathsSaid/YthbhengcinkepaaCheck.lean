/- The functions isLong, isNoDie, check and Check of package dice: they return the error that 'checkL' computes of the lists, and leave memory alone. -/
import Derived.Test.YthbhengcinkepaaMem
namespace Go.Proofs.Ythbhengcinkepaa.Dic
open Go.RowKit

theorem Less_any (x y : Int) (w : World) :
    Calls Try.prog 156 #[.int .i64 x, .int .i64 y] w fun e w' => e = .returned (.bool (decide (x < y))) ∧ w = w' := by
  go_enter Try.func156, Try.ntmps156
  go_wp2
  go_ret
  exact ⟨rfl, rfl⟩

def sortTo (d : List Int) : Nat → Bool
  | 0 => true
  | k + 1 => sortTo d k && decide (d.getD k 0 ≤ d.getD (k + 1) 0)
/-- Whether a list rises. -/
def sortB (d : List Int) : Bool := sortTo d (d.length - 1)

set_option maxHeartbeats 400000 in
theorem IsSorted_any (A : Option Addr) (d : List Int) (c B : Nat) (w : World) (hr : RInts w B A d) (hl : d.length ≤ 1000000) :
    Calls Try.prog 170 #[.slice A d.length c] w fun e w' => e = .returned (.bool (sortB d)) ∧ ∃ n, w' = w.drewN n := by
  go_enter Try.func170, Try.ntmps170
  go_wp2_with fail
  go_loopw [3] (fun i wr => ∃ z : Int, i = .int .i64 z ∧ -1 ≤ z ∧ z ≤ (d.length : Int) - 1 ∧ Hid (sortB d = sortTo d z.toNat) ∧ ∃ n, wr = w.drewN n) (fun i _ => (intOf i).toNat)
  case atStart => exact ⟨_, rfl, by omega, by omega, (by unfold sortB; congr 1; omega), 0, rfl⟩
  case round =>
    obtain ⟨z, rfl, hz1, hz2, HS, n, rfl⟩ := hrel
    by_cases hz : 0 < z
    · obtain ⟨k, hk⟩ : ∃ k : Nat, z = (k : Int) + 1 := ⟨(z - 1).toNat, by omega⟩
      subst hk
      obtain ⟨b, o, y, hA, hb, hy, hcy⟩ := hr.at_ (k := k + 1) (by omega)
      subst hA
      obtain ⟨b', o', x, hA, hb', hx, hcx⟩ := hr.at_ (k := k) (by omega)
      cases hA
      have hcy' : w.cell? ⟨b, o + (k + 1), none⟩ = some (.int .i64 y) := hcy
      have HD := Lib.hid (show sortTo d (k + 1) = (sortTo d k && decide (x ≤ y)) by simp [sortTo, hx, hy, List.getD])
      clear hx hy
      have H2 := HS
      clear HS
      by_cases hxy : y < x
      · go_wp2_with fail
        go_quiet ((go_at_call 156; exact quiet_w _ (Less_any _ _ _) rfl))
        go_wp2_with fail
        go_ret
        exact ⟨ret_bool (by rw [H2.out, show ((k : Int) + 1).toNat = k + 1 by omega, HD.out, decide_eq_false (by omega)]; simp), drew2⟩
      · go_wp2_with fail
        go_quiet ((go_at_call 156; exact quiet_w _ (Less_any _ _ _) rfl))
        go_wp2_with fail
        go_roundw
        case rel => exact ⟨_, rfl, by omega, by omega, (by show sortB d = _; rw [H2.out, show ((k : Int) + 1).toNat = k + 1 by omega, HD.out, decide_eq_true (by omega)]; simp), _, rfl⟩
        case measure => simp [intOf]
    · have H2 := HS
      clear HS
      go_wp2_with fail
      go_ret
      exact ⟨ret_bool (by rw [H2.out, show z.toNat = 0 by omega]; rfl), _, rfl⟩

/-- Whether a list is no die (of one that is not too long). -/
def noDie (d : List Int) : Bool := d.isEmpty || !sortB d || decide (d.getD 0 0 < 0) || decide (60 < d.getD (d.length - 1) 0)

set_option maxHeartbeats 400000 in
theorem isNoDie_any (A : Option Addr) (d : List Int) (c B : Nat) (w : World) (hr : RInts w B A d) (hl : d.length ≤ 1000000) :
    Calls Try.prog 144 #[.slice A d.length c] w fun e w' => e = .returned (.bool (noDie d)) ∧ ∃ n, w' = w.drewN n := by
  by_cases h0 : d = []
  · subst h0
    go_enter Try.func144, Try.ntmps144
    go_wp2_with fail
    go_ret
    exact ⟨rfl, 0, rfl⟩
  · have hpos : 0 < d.length := List.length_pos_iff.2 h0
    have hne : ((d.length : Int) == 0) = false := by rw [beq_eq_false_iff_ne]; omega
    obtain ⟨b, o, x, hA, hb, hx, hcx0⟩ := hr.at_ (k := 0) (by omega)
    have hcx : w.cell? ⟨b, o, none⟩ = some (.int .i64 x) := hcx0
    clear hcx0
    subst hA
    obtain ⟨b', o', y, hA, hb', hy, hcy⟩ := hr.at_ (k := d.length - 1) (by omega)
    cases hA
    have HD := Lib.hid (show noDie d = (!sortB d || decide (x < 0) || decide (60 < y)) by
      have : d.isEmpty = false := by simp [h0]
      simp only [noDie, this, List.getD, hx, hy, Option.getD_some, Bool.false_or])
    have HR := Lib.hid hr
    clear hr hx hy h0
    have hlast : ((d.length : Int) - 1).toNat = d.length - 1 := by omega
    cases hs : sortB d
    · have HS := Lib.hid hs
      clear hs
      go_enter Try.func144, Try.ntmps144
      go_wp2_with fail
      refine (IsSorted_any _ d c _ _ HR.out hl).mono ?_
      rintro e w' ⟨rfl, n, rfl⟩
      rw [HS.out]
      go_wp2_with fail
      go_ret
      exact ⟨ret_bool (by rw [HD.out, HS.out]; rfl), n, rfl⟩
    · have HS := Lib.hid hs
      clear hs
      by_cases hx0 : x < 0
      · go_enter Try.func144, Try.ntmps144
        go_wp2_with fail
        refine (IsSorted_any _ d c _ _ HR.out hl).mono ?_
        rintro e w' ⟨rfl, n, rfl⟩
        rw [HS.out]
        go_wp2_with fail
        go_ret
        exact ⟨ret_bool (by rw [HD.out, HS.out, decide_eq_true hx0]; rfl), n, rfl⟩
      · have hx1 : 0 ≤ x := by omega
        go_enter Try.func144, Try.ntmps144
        go_wp2_with fail
        refine (IsSorted_any _ d c _ _ HR.out hl).mono ?_
        rintro e w' ⟨rfl, n, rfl⟩
        rw [HS.out]
        go_wp2_with fail
        go_ret
        exact ⟨ret_bool (by rw [HD.out, HS.out]; rfl), n, rfl⟩

theorem isLong_any (A : Option Addr) (n c : Nat) (w : World) :
    Calls Try.prog 143 #[.slice A n c] w fun e w' => e = .returned (.bool (decide (8 < n))) ∧ w = w' := by
  have hd : decide ((8 : Int) < (n : Int)) = decide (8 < n) := by simp; omega
  have HD := Lib.hid hd
  clear hd
  go_enter Try.func143, Try.ntmps143
  go_wp2
  go_ret
  exact ⟨ret_bool HD.out, rfl⟩


/-- The first list at which p holds. -/
def idxIf (p : List Int → Bool) (ds : List (List Int)) : Option Nat := ds.findIdx? p
theorem any_take_snoc (p : List Int → Bool) (ds : List (List Int)) (k : Nat) (d : List Int) (h : ds[k]? = some d) : (ds.take (k + 1)).any p = ((ds.take k).any p || p d) := by
  have hk : k < ds.length := (List.getElem?_eq_some_iff.1 h).1
  have he : ds[k] = d := (List.getElem?_eq_some_iff.1 h).2
  rw [List.take_succ_eq_append_getElem hk, List.any_append, he]
  simp

set_option maxHeartbeats 400000 in
theorem IndexFunc_Long (p : List Int → Bool) (B : Nat) (w0 : World)
    (hp : ∀ (A : Option Addr) (d : List Int) (c : Nat) (w : World), RInts w B A d → d.length ≤ 1000000 →
      Calls Try.prog 143 #[.slice A d.length c] w fun e w' => e = .returned (.bool (p d)) ∧ ∃ n, w' = w.drewN n)
    (A : Option Addr) (ds : List (List Int)) (c : Nat) (hr : RDice w0 B A ds) (hl : ds.length ≤ 1000000) (hd : ∀ d ∈ ds, d.length ≤ 1000000) (w : World) (hw : ∃ n, w = w0.drewN n) :
    Calls Try.prog 169 #[.slice A ds.length c, .func (.func 143) #[] #[]] w fun e w' => ∃ i : Int, e = .returned (.int .i64 i) ∧ decide (0 ≤ i) = ds.any p ∧ ∃ n, w' = w0.drewN n := by
  have HP := Lib.hid hp
  have HDL := Lib.hid hd
  clear hp hd
  obtain ⟨nw, rfl⟩ := hw
  go_enter Try.func169, Try.ntmps169
  go_wp2_with fail
  go_loopw [5, 8] (fun _ i wr => ∃ k : Nat, i = .int .i64 k ∧ k ≤ ds.length ∧ Hid ((ds.take k).any p = false) ∧ ∃ n, wr = w0.drewN n) (fun _ i _ => ds.length - (intOf i).toNat)
  case atStart => exact ⟨0, rfl, by omega, rfl, _, rfl⟩
  case round =>
    obtain ⟨k, rfl, hk, HS, n, rfl⟩ := hrel
    by_cases hlt : k < ds.length
    · obtain ⟨b, o, a, cd, d, hA, hb, hdk, hc, _, hri⟩ := hr.at_ hlt
      subst hA
      have HDK := Lib.hid hdk
      have hdl := HDL.out d (List.mem_of_getElem? hdk)
      have HRI := Lib.hid (hri.drewN n)
      have H2 := HS
      clear hri hdk HS hr
      go_wp2_with fail
      refine (HP.out a d cd _ HRI.out hdl).mono ?_
      rintro e w' ⟨rfl, n2, rfl⟩
      have HT := Lib.hid (any_take_snoc p ds k d HDK.out)
      cases hpd : p d
      · have HPD := Lib.hid hpd
        clear hpd
        go_wp2_with fail
        go_roundw
        case rel => exact ⟨k + 1, by go_num, by omega, (by show List.any _ _ = _; rw [HT.out, H2.out, HPD.out]; rfl), _, rfl⟩
        case measure => simp [intOf]; omega
      · have HPD := Lib.hid hpd
        clear hpd
        go_wp2_with fail
        go_ret
        exact ⟨k, rfl, (by
          rw [List.any_eq_true.2 ⟨d, List.mem_of_getElem? HDK.out, HPD.out⟩]; simp), _, rfl⟩
    · have H2 := HS
      clear HS
      go_wp2_with fail
      go_ret
      exact ⟨-1, rfl, (by have h := H2.out; rw [List.take_of_length_le (by omega)] at h; rw [h]; rfl), _, rfl⟩

set_option maxHeartbeats 400000 in
theorem ContainsFunc_Long (p : List Int → Bool) (B : Nat) (w0 : World)
    (hp : ∀ (A : Option Addr) (d : List Int) (c : Nat) (w : World), RInts w B A d → d.length ≤ 1000000 →
      Calls Try.prog 143 #[.slice A d.length c] w fun e w' => e = .returned (.bool (p d)) ∧ ∃ n, w' = w.drewN n)
    (A : Option Addr) (ds : List (List Int)) (c : Nat) (hr : RDice w0 B A ds) (hl : ds.length ≤ 1000000) (hd : ∀ d ∈ ds, d.length ≤ 1000000) (w : World) (hw : ∃ n, w = w0.drewN n) :
    Calls Try.prog 142 #[.slice A ds.length c, .func (.func 143) #[] #[]] w fun e w' => e = .returned (.bool (ds.any p)) ∧ ∃ n, w' = w0.drewN n := by
  have HC := Lib.hid (IndexFunc_Long p B w0 hp A ds c hr hl hd w hw)
  clear hp hd hr hw
  go_enter Try.func142, Try.ntmps142
  go_wp2_with fail
  refine HC.out.mono ?_
  rintro e w' ⟨i, rfl, hi, n, rfl⟩
  have HI := Lib.hid hi
  clear hi
  go_wp2_with fail
  go_ret
  exact ⟨ret_bool HI.out, n, rfl⟩

set_option maxHeartbeats 400000 in
theorem IndexFunc_NoDie (p : List Int → Bool) (B : Nat) (w0 : World)
    (hp : ∀ (A : Option Addr) (d : List Int) (c : Nat) (w : World), RInts w B A d → d.length ≤ 1000000 →
      Calls Try.prog 144 #[.slice A d.length c] w fun e w' => e = .returned (.bool (p d)) ∧ ∃ n, w' = w.drewN n)
    (A : Option Addr) (ds : List (List Int)) (c : Nat) (hr : RDice w0 B A ds) (hl : ds.length ≤ 1000000) (hd : ∀ d ∈ ds, d.length ≤ 1000000) (w : World) (hw : ∃ n, w = w0.drewN n) :
    Calls Try.prog 169 #[.slice A ds.length c, .func (.func 144) #[] #[]] w fun e w' => ∃ i : Int, e = .returned (.int .i64 i) ∧ decide (0 ≤ i) = ds.any p ∧ ∃ n, w' = w0.drewN n := by
  have HP := Lib.hid hp
  have HDL := Lib.hid hd
  clear hp hd
  obtain ⟨nw, rfl⟩ := hw
  go_enter Try.func169, Try.ntmps169
  go_wp2_with fail
  go_loopw [5, 8] (fun _ i wr => ∃ k : Nat, i = .int .i64 k ∧ k ≤ ds.length ∧ Hid ((ds.take k).any p = false) ∧ ∃ n, wr = w0.drewN n) (fun _ i _ => ds.length - (intOf i).toNat)
  case atStart => exact ⟨0, rfl, by omega, rfl, _, rfl⟩
  case round =>
    obtain ⟨k, rfl, hk, HS, n, rfl⟩ := hrel
    by_cases hlt : k < ds.length
    · obtain ⟨b, o, a, cd, d, hA, hb, hdk, hc, _, hri⟩ := hr.at_ hlt
      subst hA
      have HDK := Lib.hid hdk
      have hdl := HDL.out d (List.mem_of_getElem? hdk)
      have HRI := Lib.hid (hri.drewN n)
      have H2 := HS
      clear hri hdk HS hr
      go_wp2_with fail
      refine (HP.out a d cd _ HRI.out hdl).mono ?_
      rintro e w' ⟨rfl, n2, rfl⟩
      have HT := Lib.hid (any_take_snoc p ds k d HDK.out)
      cases hpd : p d
      · have HPD := Lib.hid hpd
        clear hpd
        go_wp2_with fail
        go_roundw
        case rel => exact ⟨k + 1, by go_num, by omega, (by show List.any _ _ = _; rw [HT.out, H2.out, HPD.out]; rfl), _, rfl⟩
        case measure => simp [intOf]; omega
      · have HPD := Lib.hid hpd
        clear hpd
        go_wp2_with fail
        go_ret
        exact ⟨k, rfl, (by
          rw [List.any_eq_true.2 ⟨d, List.mem_of_getElem? HDK.out, HPD.out⟩]; simp), _, rfl⟩
    · have H2 := HS
      clear HS
      go_wp2_with fail
      go_ret
      exact ⟨-1, rfl, (by have h := H2.out; rw [List.take_of_length_le (by omega)] at h; rw [h]; rfl), _, rfl⟩

set_option maxHeartbeats 400000 in
theorem ContainsFunc_NoDie (p : List Int → Bool) (B : Nat) (w0 : World)
    (hp : ∀ (A : Option Addr) (d : List Int) (c : Nat) (w : World), RInts w B A d → d.length ≤ 1000000 →
      Calls Try.prog 144 #[.slice A d.length c] w fun e w' => e = .returned (.bool (p d)) ∧ ∃ n, w' = w.drewN n)
    (A : Option Addr) (ds : List (List Int)) (c : Nat) (hr : RDice w0 B A ds) (hl : ds.length ≤ 1000000) (hd : ∀ d ∈ ds, d.length ≤ 1000000) (w : World) (hw : ∃ n, w = w0.drewN n) :
    Calls Try.prog 142 #[.slice A ds.length c, .func (.func 144) #[] #[]] w fun e w' => e = .returned (.bool (ds.any p)) ∧ ∃ n, w' = w0.drewN n := by
  have HC := Lib.hid (IndexFunc_NoDie p B w0 hp A ds c hr hl hd w hw)
  clear hp hd hr hw
  go_enter Try.func142, Try.ntmps142
  go_wp2_with fail
  refine HC.out.mono ?_
  rintro e w' ⟨i, rfl, hi, n, rfl⟩
  have HI := Lib.hid hi
  clear hi
  go_wp2_with fail
  go_ret
  exact ⟨ret_bool HI.out, n, rfl⟩

/-- The error that Check returns of some lists. -/
def checkL (ds : List (List Int)) : Int :=
  if 6 < ds.length ∨ ds.any (fun d => decide (8 < d.length)) = true then 2 else if ds.length = 0 ∨ ds.any noDie = true then 10 else 0

set_option maxHeartbeats 400000 in
theorem check_any (A : Option Addr) (ds : List (List Int)) (c B : Nat) (w : World) (hr : RDice w B A ds) (hl : ds.length ≤ 1000000) (hd : ∀ d ∈ ds, d.length ≤ 1000000) :
    Calls Try.prog 92 #[.slice A ds.length c] w fun e w' => e = .returned (.int .i64 (checkL ds)) ∧ ∃ n, w' = w.drewN n := by
  have HL := Lib.hid (ContainsFunc_Long (fun d => decide (8 < d.length)) B w (fun A d c w' _ _ => (isLong_any A d.length c w').mono (fun e w2 h => ⟨h.1, 0, h.2.symm⟩)) A ds c hr hl hd w ⟨0, rfl⟩)
  have HN := Lib.hid (fun w' => ContainsFunc_NoDie noDie B w (fun A d c w' h1 h2 => isNoDie_any A d c B w' h1 h2) A ds c hr hl hd w')
  have HD := Lib.hid (show checkL ds = if 6 < ds.length ∨ ds.any (fun d => decide (8 < d.length)) = true then 2 else if ds.length = 0 ∨ ds.any noDie = true then 10 else 0 from rfl)
  clear hr hd
  by_cases h6 : 6 < ds.length
  · go_enter Try.func92, Try.ntmps92
    go_wp2_with fail
    go_ret
    exact ⟨ret_int (by rw [HD.out, if_pos (.inl h6)]), 0, rfl⟩
  · have h6' : ds.length ≤ 6 := by omega
    clear h6
    cases hlb : ds.any (fun d => decide (8 < d.length))
    · have HB := Lib.hid hlb
      clear hlb
      by_cases h0 : ds.length = 0
      · obtain rfl := List.eq_nil_of_length_eq_zero h0
        clear h0 h6'
        go_enter Try.func92, Try.ntmps92
        go_wp2_with fail
        refine HL.out.mono ?_
        rintro e w' ⟨rfl, n, rfl⟩
        rw [HB.out]
        go_wp2_with fail
        go_ret
        exact ⟨ret_int (by rw [HD.out, if_neg (by simp), if_pos (.inl rfl)]), n, rfl⟩
      · have h1 : 1 ≤ ds.length := by omega
        have hne : ((ds.length : Int) == 0) = false := by rw [beq_eq_false_iff_ne]; omega
        clear h0
        cases hnb : ds.any noDie
        · have HB2 := Lib.hid hnb
          clear hnb
          go_enter Try.func92, Try.ntmps92
          go_wp2_with fail
          refine HL.out.mono ?_
          rintro e w' ⟨rfl, n, rfl⟩
          rw [HB.out]
          go_wp2_with fail
          refine (HN.out _ ⟨n, rfl⟩).mono ?_
          rintro e w' ⟨rfl, n2, rfl⟩
          rw [HB2.out]
          go_wp2_with fail
          go_ret
          exact ⟨ret_int (by rw [HD.out, if_neg (by rw [HB.out]; simp; omega), if_neg (fun h => h.elim (fun h => by omega) (fun h => by rw [HB2.out] at h; cases h))]), n2, rfl⟩
        · have HB2 := Lib.hid hnb
          clear hnb
          go_enter Try.func92, Try.ntmps92
          go_wp2_with fail
          refine HL.out.mono ?_
          rintro e w' ⟨rfl, n, rfl⟩
          rw [HB.out]
          go_wp2_with fail
          refine (HN.out _ ⟨n, rfl⟩).mono ?_
          rintro e w' ⟨rfl, n2, rfl⟩
          rw [HB2.out]
          go_wp2_with fail
          go_ret
          exact ⟨ret_int (by rw [HD.out, if_neg (by rw [HB.out]; simp; omega), if_pos (.inr HB2.out)]), n2, rfl⟩
    · have HB := Lib.hid hlb
      clear hlb
      go_enter Try.func92, Try.ntmps92
      go_wp2_with fail
      refine HL.out.mono ?_
      rintro e w' ⟨rfl, n, rfl⟩
      rw [HB.out]
      go_wp2_with fail
      go_ret
      exact ⟨ret_int (by rw [HD.out, if_pos (.inr HB.out)]), n, rfl⟩

end Go.Proofs.Ythbhengcinkepaa.Dic
