/- Play of package peg; the reference's Of and Play. -/
import Derived.Test.YthbhengcinkepaaPg11
import Derived.Test.YthbhengcinkepaaPg7
import Derived.Test.YthbhengcinkepaaIdxJ
import Derived.Test.YthbhengcinkepaaGames
import Derived.Test.YthbhengcinkepaaRJump
import Derived.Test.YthbhengcinkepaaEqT
namespace Go.Proofs.Ythbhengcinkepaa
open Go.RowKit Lamp

/-- What Play answers. -/
def playV : Option Nat → Value
  | some q => .tuple #[.int .i64 (q : Nat), .int .i64 0]
  | none => .tuple #[.int .i64 0, .int .i64 21]

set_option maxRecDepth 100000 in
set_option maxHeartbeats 4000000 in
theorem Play_any (A A2 : Option Addr) (c c2 n p : Nat) (l g : List Tri) (w : World) (hr : RTri w w.heap.size A l) (hr2 : RTri w w.heap.size A2 g) (hc : checkT n l = 0) (hp : p < 2 ^ n) (hgl : g.length ≤ 1000000) :
    Calls Try.prog 22 #[.int .i64 n, .slice A l.length c, .int .i64 p, .slice A2 g.length c2] w fun e w' => e = .returned (playV (playL (jumpsL l) p g)) ∧ Below w.heap.size w w' := by
  obtain ⟨hn1, hn16, hl, hg⟩ := checkT_zero hc
  have hn : n ≤ 16 := by omega
  have hall := jumpsL_ok (goodT_ok hg)
  have HC := Lib.hid (check_1 A n l p c w hr (by omega))
  have HZ := Lib.hid (show checkPs n l [(p : Int)] = 0 from checkPs_ok (xs := [p]) hc (by simpa using hp))
  have HR := Lib.hid hr
  have HG := Lib.hid hr2
  have HALL := Lib.hid hall
  have HJL := Lib.hid (jumpsL_len l)
  have HUP := Lib.hid (Upto.start (jumpsL l) p g)
  have HLT := Lib.hid (fun k q (h : Upto (jumpsL l) p g k q) => Nat.lt_of_lt_of_le (h.lt hall hp) (Nat.pow_le_pow_right (n := 2) (by decide) hn))
  have HJO := Lib.hid (fun (w1 : World) (h : RTri w1 w1.heap.size A l) => jumpsOf_any A c l w1 h hl)
  obtain ⟨J, hJ⟩ : ∃ J, jumpsL l = J := ⟨_, rfl⟩
  rw [hJ] at HALL HJL HUP HLT HJO ⊢
  clear hr hr2 hc hp hg hall hJ
  go_enter Try.func22, Try.ntmps22
  go_wp2_with fail
  refine HC.out.mono ?_
  rintro e w1 ⟨rfl, hb⟩
  rw [HZ.out]
  have HB := Lib.hid hb
  have HR1 := Lib.hid (HR.out.up hb)
  clear hb HC
  go_wp2_with fail
  refine (HJO.out w1 HR1.out).mono ?_
  rintro e w2 ⟨A3, c3, rfl, hrt, hab, hb2⟩
  have HRT := Lib.hid hrt
  have HB2 := Lib.hid (HB.out.trans (hb2.mono HB.out.size))
  have HG2 := Lib.hid (HG.out.up HB2.out)
  clear hrt hab hb2 HB HR HG HR1 HJO
  go_wp2_with fail
  go_loopg [2, 27] g.length (fun gk pv iv ws => ∃ (k q : Nat), k + gk = g.length ∧ pv = .int .i64 q ∧ iv = .int .i64 k ∧ Hid (Upto J p g k q) ∧ Hid (Below w2.heap.size w2 ws))
  case atStart => exact ⟨0, p, by omega, rfl, rfl, HUP, Lib.hid (Below.refl _ _)⟩
  case round =>
    clear HUP
    obtain ⟨k, q, hk, rfl, rfl, HU1, HBB1⟩ := hrel
    have HU := HU1
    have HBB := HBB1
    clear HU1 HBB1
    have HBW := Lib.hid (HB2.out.trans (HBB.out.mono HB2.out.size))
    have hq16 := HLT.out k q HU.out
    cases gk with
    | zero =>
      obtain rfl : k = g.length := by omega
      have HE := Lib.hid (show playL J p g = some q from HU.out.end_)
      have hge : ¬ (g.length : Int) < (g.length : Int) := by omega
      have hgd : decide ((g.length : Int) < (g.length : Int)) = false := decide_eq_false hge
      go_wp2_with fail
      go_ret2
      exact ⟨by rw [HE.out]; rfl, HBW.out⟩
    | succ gg =>
      have hkl : k < g.length := by omega
      have hkl' : (k : Int) < (g.length : Int) := by omega
      obtain ⟨b, o, x, y, z, hA, hb, hx, p0, p1, p2⟩ := (HG2.out.up HBB.out).at_ hkl
      subst hA
      have HX := Lib.hid hx
      clear hx
      go_upto_region 9 with fail
      have hbj := Box.new (wr.alloc (Obj.cells #[Value.int .i64 x, Value.int .i64 y, Value.int .i64 z] 30)) 105 #[Value.int .i64 x, Value.int .i64 y, Value.int .i64 z]
      have hbe : Below wr.heap.size wr ((wr.alloc (Obj.cells #[Value.int .i64 x, Value.int .i64 y, Value.int .i64 z] 30)).alloc (Obj.cells #[Value.int .i64 x, Value.int .i64 y, Value.int .i64 z] 105)) := ((Below.refl _ wr).alloc (Nat.le_refl _) _).alloc (by simp) _
      rw [show (wr.alloc (Obj.cells #[Value.int .i64 x, Value.int .i64 y, Value.int .i64 z] 30)).heap.size = wr.heap.size + 1 by simp] at hbj
      obtain ⟨W0, hW0⟩ : ∃ W0, (wr.alloc (Obj.cells #[Value.int .i64 x, Value.int .i64 y, Value.int .i64 z] 30)).alloc (Obj.cells #[Value.int .i64 x, Value.int .i64 y, Value.int .i64 z] 105) = W0 := ⟨_, rfl⟩
      rw [hW0] at hbj hbe ⊢
      have HBJ := Lib.hid hbj
      have HB0 := Lib.hid (HBB.out.trans (hbe.mono HBB.out.size))
      have x0 := hbj.cell 0
      have x1 := hbj.cell 1
      have x2 := hbj.cell 2
      simp only [List.getElem?_toArray, List.getElem?_cons_zero, List.getElem?_cons_succ] at x0 x1 x2
      have HCO := Lib.hid (ContainsJ_any A3 c3 J x y z W0 (HRT.out.up HB0.out) (by have := HJL.out; omega))
      clear hbj hbe hW0 p0 p1 p2 HBB
      by_cases hm : (x, y, z) ∈ J
      · obtain ⟨a1, a2, a3, hE, ha1, ha2, ha3⟩ := (HALL.out _ hm).nat hn
        cases hE
        rw [show decide (((a1 : Int), (a2 : Int), (a3 : Int)) ∈ J) = true from decide_eq_true hm] at HCO
        have HM := Lib.hid hm
        clear hm
        go_wp2_with fail
        refine HCO.out.mono ?_
        rintro e w3 ⟨rfl, hb3⟩
        have HB3 := Lib.hid (HB0.out.trans (hb3.mono HB0.out.size))
        have hbj3 := HBJ.out.below hb3 HBJ.out.lt
        have y0 := hbj3.cell 0
        have y1 := hbj3.cell 1
        have y2 := hbj3.cell 2
        simp only [List.getElem?_toArray, List.getElem?_cons_zero, List.getElem?_cons_succ] at y0 y1 y2
        have HBJ3 := Lib.hid hbj3
        clear hb3 hbj3 x0 x1 x2 HCO
        cases hcan : canJ ((a1 : Int), (a2 : Int), (a3 : Int)) q with
        | false =>
          have HE := Lib.hid (show playL J p g = none from HU.out.stop HX.out (fun h => by rw [hcan] at h; cases h.2))
          have HIP := Lib.hid (isPossible_of w3 ha1 ha2 ha3 hq16 hcan)
          clear hcan
          go_wp2_with fail
          refine HIP.out.mono ?_
          rintro e w4 ⟨rfl, hb4⟩
          have HB4 := Lib.hid (HB3.out.trans (hb4.mono HB3.out.size))
          clear hb4
          go_wp2_with fail
          go_ret2
          exact ⟨by rw [HE.out]; rfl, HB2.out.trans (HB4.out.mono HB2.out.size)⟩
        | true =>
          have HN := Lib.hid (HU.out.next HX.out HM.out hcan)
          have HIP := Lib.hid (isPossible_of w3 ha1 ha2 ha3 hq16 hcan)
          obtain ⟨r, hr⟩ : ∃ r, fromJ ((a1 : Int), (a2 : Int), (a3 : Int)) q = r := ⟨_, rfl⟩
          rw [hr] at HN
          have HFR := Lib.hid (fun w9 => from_of (a := a1) (b := a2) (c := a3) (p := q) w9 ha1 ha2 ha3 hq16 hr)
          clear hcan hr
          go_wp2_with fail
          refine HIP.out.mono ?_
          rintro e w4 ⟨rfl, hb4⟩
          have HB4 := Lib.hid (HB3.out.trans (hb4.mono HB3.out.size))
          have hbj4 := HBJ3.out.below hb4 HBJ3.out.lt
          have z0 := hbj4.cell 0
          have z1 := hbj4.cell 1
          have z2 := hbj4.cell 2
          simp only [List.getElem?_toArray, List.getElem?_cons_zero, List.getElem?_cons_succ] at z0 z1 z2
          clear hb4 hbj4 y0 y1 y2 HIP
          go_wp2_with fail
          refine (HFR.out w4).mono ?_
          rintro e w5 ⟨rfl, hb5⟩
          have HB5 := Lib.hid (HB4.out.trans (hb5.mono HB4.out.size))
          clear hb5
          go_wp2_with fail
          go_roundg gg
          case measure => omega
          case rel => exact ⟨k + 1, r, by omega, rfl, by go_num, HN, HB5⟩
      · rw [show decide ((x, y, z) ∈ J) = false from decide_eq_false hm] at HCO
        have HE := Lib.hid (show playL J p g = none from HU.out.stop HX.out (fun h => hm h.1))
        clear hm
        go_wp2_with fail
        refine HCO.out.mono ?_
        rintro e w3 ⟨rfl, hb3⟩
        have HB3 := Lib.hid (HB0.out.trans (hb3.mono HB0.out.size))
        clear hb3 x0 x1 x2 HCO
        go_wp2_with fail
        go_ret2
        exact ⟨by rw [HE.out]; rfl, HB2.out.trans (HB3.out.mono HB2.out.size)⟩

set_option maxRecDepth 100000 in
set_option maxHeartbeats 4000000 in
theorem ROf_any (A : Option Addr) (c : Nat) (l : List Tri) (x y z : Int) (w : World) (hr : RTri w w.heap.size A l) (hl : l.length ≤ 1000000) :
    Calls Try.prog 66 #[.slice A l.length c, .agg #[.int .i64 x, .int .i64 y, .int .i64 z]] w fun e w' => e = .returned (.bool (decide ((x, y, z) ∈ jumpsL l))) ∧ Below w.heap.size w w' := by
  have hmem : (x, y, z) ∈ jumpsL l ↔ ∃ e ∈ l, (x, y, z) = e ∨ (x, y, z) = (e.2.2, e.2.1, e.1) := by rw [jumpsL_mem, bothL_mem]
  obtain ⟨D, hD⟩ : ∃ D, decide ((x, y, z) ∈ jumpsL l) = D := ⟨_, rfl⟩
  have HY := Lib.hid (show (∃ e ∈ l, (x, y, z) = e ∨ (x, y, z) = (e.2.2, e.2.1, e.1)) → D = true from fun h => by rw [← hD]; exact decide_eq_true (hmem.2 h))
  have HNO := Lib.hid (show ¬ (∃ e ∈ l, (x, y, z) = e ∨ (x, y, z) = (e.2.2, e.2.1, e.1)) → D = false from fun h => by rw [← hD]; exact decide_eq_false (fun h2 => h (hmem.1 h2)))
  rw [hD]
  have HR := Lib.hid hr
  clear hr hmem hD
  go_enter Try.func66, Try.ntmps66
  go_wp2_with fail
  have hbj := Box.new w 30 #[Value.int .i64 x, Value.int .i64 y, Value.int .i64 z]
  have hbe := (Below.refl w.heap.size w).alloc (Nat.le_refl _) (Obj.cells #[Value.int .i64 x, Value.int .i64 y, Value.int .i64 z] 30)
  obtain ⟨W, hW⟩ : ∃ W, w.alloc (Obj.cells #[Value.int .i64 x, Value.int .i64 y, Value.int .i64 z] 30) = W := ⟨_, rfl⟩
  rw [hW] at hbj hbe ⊢
  have HBJ := Lib.hid hbj
  have HB := Lib.hid hbe
  have HRW := Lib.hid (HR.out.up hbe)
  clear hbj hbe hW HR
  go_loopg [5] l.length (fun g i ws => ∃ k : Nat, k + g = l.length ∧ i = .int .i64 k ∧ Hid (∀ e ∈ l.take k, ¬ ((x, y, z) = e ∨ (x, y, z) = (e.2.2, e.2.1, e.1))) ∧ Hid (Below W.heap.size W ws))
  case atStart => exact ⟨0, by omega, rfl, Lib.hid (by simp), Lib.hid (Below.refl _ _)⟩
  case round =>
    obtain ⟨k, hk, rfl, HN1, HBB1⟩ := hrel
    have HN := HN1
    have HBB := HBB1
    clear HN1 HBB1
    have HBW := Lib.hid (HB.out.trans (HBB.out.mono HB.out.size))
    have HBR := Lib.hid (HBJ.out.below HBB.out HBJ.out.lt)
    cases gk with
    | zero =>
      obtain rfl : k = l.length := by omega
      have HE := Lib.hid (show D = false from HNO.out (fun ⟨e, he, h⟩ => HN.out e (by rw [List.take_length]; exact he) h))
      have hge : ¬ (l.length : Int) < (l.length : Int) := by omega
      have hgd : decide ((l.length : Int) < (l.length : Int)) = false := decide_eq_false hge
      go_wp2_with fail
      go_ret
      exact ⟨ret_bool HE.out.symm, HBW.out⟩
    | succ g =>
      have hkl : k < l.length := by omega
      have hkl' : (k : Int) < (l.length : Int) := by omega
      obtain ⟨b, o, p, q, r, hA, hb, hx, p0, p1, p2⟩ := (HRW.out.up HBB.out).at_ hkl
      subst hA
      have HX := Lib.hid hx
      have x0 := HBR.out.cell 0
      have x1 := HBR.out.cell 1
      have x2 := HBR.out.cell 2
      simp only [List.getElem?_toArray, List.getElem?_cons_zero, List.getElem?_cons_succ] at x0 x1 x2
      have hwl := HBR.out.lt
      have hbn := Box.new wr 30 #[Value.int .i64 p, Value.int .i64 q, Value.int .i64 r]
      have HBA := Lib.hid (HBB.out.alloc HBB.out.size (Obj.cells #[Value.int .i64 p, Value.int .i64 q, Value.int .i64 r] 30))
      have heq1 := eqT p q r x y z
      have heq2 := eqT p q r z y x
      have h1d : (p == x && q == y && r == z) = decide ((x, y, z) = (p, q, r)) := by
        rw [Bool.eq_iff_iff]
        simp only [Bool.and_eq_true, beq_iff_eq, decide_eq_true_eq, Prod.mk.injEq]
        constructor
        · rintro ⟨⟨rfl, rfl⟩, rfl⟩; exact ⟨rfl, rfl, rfl⟩
        · rintro ⟨rfl, rfl, rfl⟩; exact ⟨⟨rfl, rfl⟩, rfl⟩
      have h2d : (p == z && q == y && r == x) = decide ((x, y, z) = (r, q, p)) := by
        rw [Bool.eq_iff_iff]
        simp only [Bool.and_eq_true, beq_iff_eq, decide_eq_true_eq, Prod.mk.injEq]
        constructor
        · rintro ⟨⟨rfl, rfl⟩, rfl⟩; exact ⟨rfl, rfl, rfl⟩
        · rintro ⟨rfl, rfl, rfl⟩; exact ⟨⟨rfl, rfl⟩, rfl⟩
      clear hx
      by_cases h1 : (x, y, z) = (p, q, r)
      · have HE := Lib.hid (show D = true from HY.out ⟨_, List.mem_of_getElem? HX.out, .inl h1⟩)
        rw [h1d, decide_eq_true h1] at heq1
        clear h1 h1d h2d
        go_wp2_with fail
        go_ret
        exact ⟨ret_bool HE.out.symm, HB.out.trans (HBA.out.mono HB.out.size)⟩
      · by_cases h2 : (x, y, z) = (r, q, p)
        · have HE := Lib.hid (show D = true from HY.out ⟨_, List.mem_of_getElem? HX.out, .inr h2⟩)
          rw [h1d, decide_eq_false h1] at heq1
          rw [h2d, decide_eq_true h2] at heq2
          clear h1 h2 h1d h2d
          go_wp2_with fail
          go_ret
          exact ⟨ret_bool HE.out.symm, HB.out.trans (HBA.out.mono HB.out.size)⟩
        · have HNN := Lib.hid (show ∀ e ∈ l.take (k + 1), ¬ ((x, y, z) = e ∨ (x, y, z) = (e.2.2, e.2.1, e.1)) from fun e he => by
            have h3 := List.getElem?_eq_some_iff.1 HX.out
            rw [List.take_succ_eq_append_getElem h3.1, List.mem_append, h3.2, List.mem_singleton] at he
            rcases he with he | rfl
            · exact HN.out e he
            · rintro (h | h)
              · exact h1 h
              · exact h2 h)
          rw [h1d, decide_eq_false h1] at heq1
          rw [h2d, decide_eq_false h2] at heq2
          clear h1 h2 h1d h2d
          go_wp2_with fail
          go_roundg g
          case measure => omega
          case rel => exact ⟨k + 1, by omega, by go_num, HNN, HBA⟩

/-- What the reference's Play answers. -/
def RPlayOut (J : List Tri) (p : Nat) (g : List Tri) (e : Ending) : Prop := ∃ (q : Nat) (b : Bool), e = .returned (.tuple #[.int .i64 (q : Nat), .bool b]) ∧ (playL J p g = some q ∧ b = true ∨ playL J p g = none ∧ b = false)

set_option maxRecDepth 100000 in
set_option maxHeartbeats 4000000 in
theorem RPlay_any (A A2 : Option Addr) (c c2 n p : Nat) (l g : List Tri) (w : World) (hr : RTri w w.heap.size A l) (hr2 : RTri w w.heap.size A2 g) (hl : l.length ≤ 40) (hn : n ≤ 16) (ho : LinesOk n l) (hp : p < 2 ^ n) (hgl : g.length ≤ 1000000) :
    Calls Try.prog 23 #[.slice A l.length c, .int .i64 p, .slice A2 g.length c2] w fun e w' => RPlayOut (jumpsL l) p g e ∧ Below w.heap.size w w' := by
  have hall := jumpsL_ok ho
  have HR := Lib.hid hr
  have HG := Lib.hid hr2
  have HALL := Lib.hid hall
  have HUP := Lib.hid (Upto.start (jumpsL l) p g)
  have HLT := Lib.hid (fun k q (h : Upto (jumpsL l) p g k q) => Nat.lt_of_lt_of_le (h.lt hall hp) (Nat.pow_le_pow_right (n := 2) (by decide) hn))
  have HOF := Lib.hid (fun (x y z : Int) (w1 : World) (h : RTri w1 w1.heap.size A l) => ROf_any A c l x y z w1 h (by omega))
  obtain ⟨J, hJ⟩ : ∃ J, jumpsL l = J := ⟨_, rfl⟩
  rw [hJ] at HALL HUP HLT HOF ⊢
  clear hr hr2 hp hall hJ ho
  go_enter Try.func23, Try.ntmps23
  go_wp2_with fail
  go_loopg [1, 8] g.length (fun gk pv iv ws => ∃ (k q : Nat), k + gk = g.length ∧ pv = .int .i64 q ∧ iv = .int .i64 k ∧ Hid (Upto J p g k q) ∧ Hid (Below w.heap.size w ws))
  case atStart => exact ⟨0, p, by omega, rfl, rfl, HUP, Lib.hid (Below.refl _ _)⟩
  case round =>
    clear HUP
    obtain ⟨k, q, hk, rfl, rfl, HU1, HBB1⟩ := hrel
    have HU := HU1
    have HBB := HBB1
    clear HU1 HBB1
    have HRW := Lib.hid (HR.out.up HBB.out)
    have hq16 := HLT.out k q HU.out
    cases gk with
    | zero =>
      obtain rfl : k = g.length := by omega
      have HE := Lib.hid (show playL J p g = some q from HU.out.end_)
      have hge : ¬ (g.length : Int) < (g.length : Int) := by omega
      have hgd : decide ((g.length : Int) < (g.length : Int)) = false := decide_eq_false hge
      go_wp2_with fail
      go_ret2
      exact ⟨⟨q, true, rfl, .inl ⟨HE.out, rfl⟩⟩, HBB.out⟩
    | succ gg =>
      have hkl : k < g.length := by omega
      have hkl' : (k : Int) < (g.length : Int) := by omega
      obtain ⟨b, o, x, y, z, hA, hb, hx, p0, p1, p2⟩ := (HG.out.up HBB.out).at_ hkl
      subst hA
      have HX := Lib.hid hx
      have HOW := Lib.hid (HOF.out x y z wr HRW.out)
      clear hx
      by_cases hm : (x, y, z) ∈ J
      · obtain ⟨a1, a2, a3, hE, ha1, ha2, ha3, hab, hac, hbc⟩ := (HALL.out _ hm).nats
        cases hE
        rw [show decide (((a1 : Int), (a2 : Int), (a3 : Int)) ∈ J) = true from decide_eq_true hm] at HOW
        have HM := Lib.hid hm
        have hrj := fun w9 => RJump_any a1 a2 a3 q w9 (by omega) (by omega) (by omega) hq16 hab hac hbc
        clear hm hab hac hbc
        cases hcan : canJ ((a1 : Int), (a2 : Int), (a3 : Int)) q with
        | false =>
          have HE := Lib.hid (show playL J p g = none from HU.out.stop HX.out (fun h => by rw [hcan] at h; cases h.2))
          rw [hcan] at hrj
          have HRJ := Lib.hid hrj
          clear hcan hrj
          go_wp2_with fail
          refine HOW.out.mono ?_
          rintro e w3 ⟨rfl, hb3⟩
          have HB3 := Lib.hid (HBB.out.trans (hb3.mono HBB.out.size))
          have q0 := (hb3.cell (p := ⟨b, o + k * 3, none⟩) hb).trans p0
          have q1 := (hb3.cell (p := ⟨b, o + k * 3 + 1, none⟩) hb).trans p1
          have q2 := (hb3.cell (p := ⟨b, o + k * 3 + 2, none⟩) hb).trans p2
          clear hb3 p0 p1 p2 HOW
          go_wp2_with fail
          refine (HRJ.out w3).mono ?_
          rintro e w4 ⟨rfl, hb4⟩
          have HB4 := Lib.hid (HB3.out.trans (hb4.mono HB3.out.size))
          clear hb4
          go_wp2_with fail
          go_ret2
          exact ⟨⟨q, false, rfl, .inr ⟨HE.out, rfl⟩⟩, HB4.out⟩
        | true =>
          have HN := Lib.hid (HU.out.next HX.out HM.out hcan)
          rw [hcan, if_pos rfl] at hrj
          obtain ⟨r, hr⟩ : ∃ r, fromJ ((a1 : Int), (a2 : Int), (a3 : Int)) q = r := ⟨_, rfl⟩
          rw [hr] at HN hrj
          have HRJ := Lib.hid hrj
          clear hcan hr hrj
          go_wp2_with fail
          refine HOW.out.mono ?_
          rintro e w3 ⟨rfl, hb3⟩
          have HB3 := Lib.hid (HBB.out.trans (hb3.mono HBB.out.size))
          have q0 := (hb3.cell (p := ⟨b, o + k * 3, none⟩) hb).trans p0
          have q1 := (hb3.cell (p := ⟨b, o + k * 3 + 1, none⟩) hb).trans p1
          have q2 := (hb3.cell (p := ⟨b, o + k * 3 + 2, none⟩) hb).trans p2
          clear hb3 p0 p1 p2 HOW
          go_wp2_with fail
          refine (HRJ.out w3).mono ?_
          rintro e w4 ⟨rfl, hb4⟩
          have HB4 := Lib.hid (HB3.out.trans (hb4.mono HB3.out.size))
          clear hb4
          go_wp2_with fail
          go_roundg gg
          case measure => omega
          case rel => exact ⟨k + 1, r, by omega, rfl, by go_num, HN, HB4⟩
      · rw [show decide ((x, y, z) ∈ J) = false from decide_eq_false hm] at HOW
        have HE := Lib.hid (show playL J p g = none from HU.out.stop HX.out (fun h => hm h.1))
        clear hm
        go_wp2_with fail
        refine HOW.out.mono ?_
        rintro e w3 ⟨rfl, hb3⟩
        have HB3 := Lib.hid (HBB.out.trans (hb3.mono HBB.out.size))
        clear hb3 HOW
        go_wp2_with fail
        go_ret2
        exact ⟨⟨q, false, rfl, .inr ⟨HE.out, rfl⟩⟩, HB3.out⟩
end Go.Proofs.Ythbhengcinkepaa
