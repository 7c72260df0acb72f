/- The functions less and equal of the reference: whether a list comes before another one, and whether two lists are equal; they only read. -/
import Derived.Test.YtkkholagmjcgiaaTwinsL
import Derived.Test.YtkkholagmjcgiaaInts
import Derived.Test.YtkkholagmjcgiaaBeats2
namespace Go.Proofs.Ytkkholagmjcgiaa
open Go.RowKit

theorem drop_at {l : List Int} {k : Nat} {x : Int} (h : l[k]? = some x) : l.drop k = x :: l.drop (k + 1) := by
  obtain ⟨hk, rfl⟩ := List.getElem?_eq_some_iff.1 h
  exact List.drop_eq_getElem_cons hk

set_option maxHeartbeats 1000000 in
theorem less_any (A A2 : Option Addr) (a b : List Int) (c c2 B : Nat) (w : World) (ha : RInts w B A a) (hb : RInts w B A2 b) (hab : a.length ≤ b.length) (hlb : b.length ≤ 1000) :
    Calls Try.prog 123 #[.slice A a.length c, .slice A2 b.length c2] w fun e w' => e = .returned (.bool (befL a b)) ∧ ∃ n, w' = w.drewN n := by
  have HA := Lib.hid ha
  have HB := Lib.hid hb
  clear ha hb
  go_enter Try.func123, Try.ntmps123
  go_wp2_with fail
  go_loopg [5] a.length (fun g i wx => ∃ (k : Nat), k + g = a.length ∧ i = .int .i64 k ∧ Hid (befL (a.drop k) (b.drop k) = befL a b) ∧ Hid (∃ n, w.drewN n = wx))
  case atStart => exact ⟨0, by omega, rfl, Lib.hid rfl, Lib.hid ⟨0, rfl⟩⟩
  case round =>
    obtain ⟨k, hk, rfl, HF, HW⟩ := hrel
    have HF2 := HF
    have HW2 := HW
    clear HF HW
    obtain ⟨n0, hn0⟩ := HW2.out
    cases gk with
    | zero =>
      obtain rfl : k = a.length := by omega
      have HE := Lib.hid (show befL a b = false by rw [← HF2.out, List.drop_length]; rfl)
      clear HF2 HW2
      go_wp2_with fail
      go_ret
      exact ⟨ret_bool HE.out.symm, n0, hn0.symm⟩
    | succ g =>
      have hka : k < a.length := by omega
      have hkb : k < b.length := by omega
      obtain ⟨g1, o1, x, hA1, hb1, hx, hcx⟩ := (HA.out.drewN n0).at_ (k := k) hka
      subst hA1
      obtain ⟨g2, o2, y, hA2, hb2, hy, hcy⟩ := (HB.out.drewN n0).at_ (k := k) hkb
      subst hA2
      have HS := Lib.hid (show befL (a.drop k) (b.drop k) = if x = y then befL (a.drop (k + 1)) (b.drop (k + 1)) else decide (x < y) by
        rw [drop_at hx, drop_at hy]
        rfl)
      rw [hn0] at hcx hcy
      have hka1 : (k : Int) < (a.length : Int) := by omega
      have hkb1 : (k : Int) < (b.length : Int) := by omega
      clear hx hy hn0
      by_cases hxy : x = y
      · subst hxy
        have hne : (x != x) = false := by simp
        have HS1 := Lib.hid (show befL (a.drop (k + 1)) (b.drop (k + 1)) = befL a b by rw [← HF2.out, HS.out, if_pos rfl])
        go_wp2_with fail
        go_quiet (fail)
        clear hne
        go_wp2_with fail
        go_roundg g
        case measure => omega
        case rel => exact ⟨k + 1, by omega, by go_num, HS1, Lib.hid (drew_more HW2.out _)⟩
      · have hne0 : (x == y) = false := by rw [beq_eq_false_iff_ne]; exact hxy
        have hne : (x != y) = true := by simp [bne, hne0]
        have HE := Lib.hid (show befL a b = decide (x < y) by rw [← HF2.out, HS.out, if_neg hxy])
        clear hxy HS
        go_wp2_with fail
        go_quiet (fail)
        go_wp2_with fail
        go_quiet (fail)
        clear hne hne0
        go_wp2_with fail
        go_ret
        obtain ⟨n1, hn1⟩ := HW2.out
        refine ⟨ret_bool HE.out.symm, ?_⟩
        rw [← hn1, World.drewN_drewN, World.drewN_drewN]
        exact ⟨_, rfl⟩

theorem eq_of_lens {a b : List Int} (h : a.length = b.length) : decide (a = b) = (!befL a b && !befL b a) := by
  rw [Bool.eq_iff_iff, decide_eq_true_eq, Bool.and_eq_true, Bool.not_eq_true', Bool.not_eq_true']
  constructor
  · rintro rfl
    exact ⟨befL_irrefl a, befL_irrefl a⟩
  · rintro ⟨h1, h2⟩
    exact befL_total h h1 h2

set_option maxHeartbeats 1000000 in
theorem equal_any (A A2 : Option Addr) (a b : List Int) (c c2 B : Nat) (w : World) (ha : RInts w B A a) (hb : RInts w B A2 b) (hla : a.length ≤ 1000) (hlb : b.length ≤ 1000) :
    Calls Try.prog 124 #[.slice A a.length c, .slice A2 b.length c2] w fun e w' => e = .returned (.bool (decide (a = b))) ∧ ∃ n, w' = w.drewN n := by
  by_cases hl : a.length = b.length
  · have HL1 := Lib.hid (fun n => less_any A A2 a b c c2 B (w.drewN n) (ha.drewN n) (hb.drewN n) (by omega) hlb)
    have HL2 := Lib.hid (fun n => less_any A2 A b a c2 c B (w.drewN n) (hb.drewN n) (ha.drewN n) (by omega) hla)
    have HE := Lib.hid (eq_of_lens hl)
    have hlt : ((a.length : Int) == (b.length : Int)) = true := by rw [hl]; simp
    obtain ⟨p, hp⟩ : ∃ p, befL a b = p := ⟨_, rfl⟩
    obtain ⟨q, hq⟩ : ∃ q, befL b a = q := ⟨_, rfl⟩
    rw [hp] at HL1
    rw [hq] at HL2
    rw [hp, hq] at HE
    clear ha hb hl hp hq
    rw [HE.out]
    cases p with
    | true =>
      go_enter Try.func124, Try.ntmps124
      go_wp2_with fail
      refine (HL1.out 0).mono ?_
      rintro e w' ⟨rfl, n, rfl⟩
      go_wp2_with fail
      go_ret
      exact ⟨rfl, n, rfl⟩
    | false =>
      go_enter Try.func124, Try.ntmps124
      go_wp2_with fail
      refine (HL1.out 0).mono ?_
      rintro e w' ⟨rfl, n, rfl⟩
      go_wp2_with fail
      refine (HL2.out n).mono ?_
      rintro e w' ⟨rfl, n2, rfl⟩
      go_wp2_with fail
      go_ret
      exact ⟨rfl, n + n2, by simp⟩
  · have hlt : ((a.length : Int) == (b.length : Int)) = false := by rw [beq_eq_false_iff_ne]; omega
    have HE := Lib.hid (show decide (a = b) = false by
      rw [decide_eq_false_iff_not]
      rintro rfl
      exact hl rfl)
    clear hl ha hb
    go_enter Try.func124, Try.ntmps124
    go_wp2_with fail
    go_ret
    exact ⟨ret_bool HE.out.symm, 0, rfl⟩

end Go.Proofs.Ytkkholagmjcgiaa
