/- The function winner of package dice: the first of some indices whose die beats a given one, or -1; memory is left alone. And the library's Delete at a row of one's own. -/
import Derived.Test.YtkkholagmjcgiaaRow
import Derived.Deep.LoopGhost
namespace Go.Proofs.Ytkkholagmjcgiaa
open Go.RowKit

/-- The bools lie there. -/
def RBools (w : World) (B : Nat) (A : Option Addr) (zs : List Bool) : Prop := Lies w B A (zs.map Value.bool)
/-- A table of bools, row by row. -/
def RTab (w : World) (B : Nat) (A : Option Addr) (t : List (List Bool)) : Prop :=
  ∃ vs : List Value, vs.length = t.length ∧ Lies w B A vs ∧ ∀ (i : Nat) (v : Value) (r : List Bool), vs[i]? = some v → t[i]? = some r → ∃ a c, v = .slice a r.length c ∧ RBools w B a r

section
variable {w w' : World} {B B' : Nat} {A : Option Addr} {t : List (List Bool)}
theorem RBools.at_ {zs : List Bool} {k : Nat} (h : RBools w B A zs) (hk : k < zs.length) : ∃ b o x, A = some ⟨b, o, none⟩ ∧ b < B ∧ zs[k]? = some x ∧ w.cell? ⟨b, o + k, none⟩ = some (.bool x) := by
  obtain ⟨b, o, u, e, hb, hu, hc⟩ := Lies.at_ (k := k) h (by simpa using hk)
  rw [List.getElem?_map] at hu
  obtain ⟨x, hx, rfl⟩ := Option.map_eq_some_iff.1 hu
  exact ⟨b, o, x, e, hb, hx, hc⟩
theorem RTab.keep (h : RTab w B A t) (hk : ∀ b o, b < B → w'.cell? ⟨b, o, none⟩ = w.cell? ⟨b, o, none⟩) : RTab w' B A t := by
  obtain ⟨vs, hl, hv, hd⟩ := h
  refine ⟨vs, hl, hv.keep hk, fun i v r h1 h2 => ?_⟩
  obtain ⟨a, c, e, hr⟩ := hd i v r h1 h2
  exact ⟨a, c, e, Lies.keep hr hk⟩
theorem RTab.more (h : RTab w B A t) (hB : B ≤ B') : RTab w B' A t := by
  obtain ⟨vs, hl, hv, hd⟩ := h
  refine ⟨vs, hl, hv.more hB, fun i v r h1 h2 => ?_⟩
  obtain ⟨a, c, e, hr⟩ := hd i v r h1 h2
  exact ⟨a, c, e, Lies.more hr hB⟩
theorem RTab.below (h : RTab w B A t) (hb : Below B w w') : RTab w' B A t := h.keep fun b o hlt => hb.cell (p := ⟨b, o, none⟩) hlt
theorem RTab.drewN (h : RTab w B A t) (n : Nat) : RTab (w.drewN n) B A t := h.keep fun b o _ => by simp
theorem RTab.at_ {k : Nat} (h : RTab w B A t) (hk : k < t.length) : ∃ b o a c r, A = some ⟨b, o, none⟩ ∧ b < B ∧ t[k]? = some r ∧ w.cell? ⟨b, o + k, none⟩ = some (.slice a r.length c) ∧ RBools w B a r := by
  obtain ⟨vs, hl, hv, hd⟩ := h
  obtain ⟨b, o, u, e, hb, hu, hc⟩ := hv.at_ (k := k) (by omega)
  obtain ⟨a, c, rfl, hr⟩ := hd k u _ hu (List.getElem?_eq_getElem hk)
  exact ⟨b, o, a, c, _, e, hb, List.getElem?_eq_getElem hk, hc, hr⟩
end

/-- Whether one die beats another by the table. -/
def hit (t : List (List Bool)) (o d : Int) : Bool := (t.getD o.toNat []).getD d.toNat false
/-- The first of some dice that beats a die, or -1. -/
def winnerL (t : List (List Bool)) (some_ : List Int) (d : Int) : Int := ((some_.find? fun o => hit t o d).getD (-1))

/-- A table of n rows of n, and indices below n. -/
def Square (t : List (List Bool)) (n : Nat) : Prop := t.length = n ∧ ∀ r ∈ t, r.length = n
def Inds (l : List Int) (n : Nat) : Prop := ∀ x ∈ l, 0 ≤ x ∧ x < n

set_option maxHeartbeats 1000000 in
theorem winner_any (A A2 : Option Addr) (t : List (List Bool)) (some_ : List Int) (d : Int) (c c2 n B : Nat) (w : World) (ht : RTab w B A t) (hs : RInts w B A2 some_) (hq : Square t n) (hi : Inds some_ n) (hd : 0 ≤ d ∧ d < n) (_ : n ≤ 1000) (hl : some_.length ≤ 1000) :
    Calls Try.prog 88 #[.slice A n c, .slice A2 some_.length c2, .int .i64 d] w fun e w' => e = .returned (.int .i64 (winnerL t some_ d)) ∧ w = w' := by
  obtain ⟨k, rfl⟩ := Int.eq_ofNat_of_zero_le hd.1
  have hk : k < n := by omega
  have HT := Lib.hid ht
  have HS := Lib.hid hs
  have HQ := Lib.hid hq
  have HI := Lib.hid hi
  have HW := Lib.hid (show winnerL t some_ (k : Int) = ((some_.find? fun o => hit t o (k : Int)).getD (-1)) from rfl)
  have hki : (k : Int) < (n : Int) := by omega
  clear ht hs hq hi hd
  go_enter Try.func88, Try.ntmps88
  go_wp2_with fail
  go_loopg [11] some_.length (fun g i wx => ∃ j : Nat, j + g = some_.length ∧ i = .int .i64 j ∧ Hid ((some_.take j).find? (fun o => hit t o (k : Int)) = none) ∧ w = wx)
  case atStart => exact ⟨0, by omega, rfl, rfl, rfl⟩
  case round =>
    obtain ⟨j, hj, rfl, HF, rfl⟩ := hrel
    have HF2 := HF
    clear HF
    cases gk with
    | zero =>
      obtain rfl : j = some_.length := by omega
      go_wp2_with fail
      go_ret
      refine ⟨ret_int ?_, rfl⟩
      have := HF2.out
      rw [List.take_length] at this
      rw [HW.out, this]
      rfl
    | succ g =>
      obtain ⟨b, o, x, hA2, hb, hx, hc⟩ := HS.out.at_ (k := j) (by omega)
      subst hA2
      have hxr := HI.out x (List.mem_of_getElem? hx)
      obtain ⟨y, rfl⟩ := Int.eq_ofNat_of_zero_le hxr.1
      have hyn : y < n := by omega
      obtain ⟨b2, o2, a, cr, r, hA, hb2, hr, hcr, hrb⟩ := HT.out.at_ (k := y) (by rw [HQ.out.1]; exact hyn)
      subst hA
      have hrl : r.length = n := HQ.out.2 r (List.mem_of_getElem? hr)
      obtain ⟨b3, o3, z, ha, hb3, hz, hcz⟩ := hrb.at_ (k := k) (by omega)
      subst ha
      rw [hrl] at hcr
      have HH := Lib.hid (show hit t (y : Int) (k : Int) = z by simp [hit, List.getD, hr, hz])
      have HX := Lib.hid hx
      have hjl : (j : Int) < (some_.length : Int) := by omega
      have hyi : (y : Int) < (n : Int) := by omega
      have HT2 := Lib.hid (show (some_.take (j + 1)) = some_.take j ++ [(y : Int)] by
        have hlt : j < some_.length := by omega
        rw [List.take_succ_eq_append_getElem hlt, (List.getElem?_eq_some_iff.1 hx).2])
      clear hx hr hz hrb hrl hxr
      cases z
      · go_wp2_with fail
        go_roundg g
        case measure => omega
        case rel => exact ⟨j + 1, by omega, by go_num, (by show List.find? _ _ = _; rw [HT2.out, List.find?_append, HF2.out]; simp [HH.out]), rfl⟩
      · go_wp2_with fail
        go_ret
        refine ⟨ret_int ?_, rfl⟩
        rw [HW.out]
        have e : some_ = some_.take (j + 1) ++ some_.drop (j + 1) := (List.take_append_drop _ _).symm
        rw [e, HT2.out, List.find?_append, List.find?_append, HF2.out]
        simp [HH.out]

end Go.Proofs.Ytkkholagmjcgiaa
