/- The function waysOf of package dice: of at most 6 dice with at most 8 sides from 0 to 60 it returns a new map of the ways for each sum that has some, whatever the order of the ranges. -/
import Derived.Test.YthbhengcinkepaaMap
import Derived.Test.YthbhengcinkepaaMem
namespace Go.Proofs.Ythbhengcinkepaa.Dic
open Go.RowKit Go.Maps

set_option maxHeartbeats 1000000 in
theorem waysOf_any (A : Option Addr) (ds : List (List Int)) (c : Nat) (w : World) (hr : RDice w w.heap.size A ds) (hl : ds.length ≤ 6) (hd : ∀ d ∈ ds, DieOk d) :
    Calls Try.prog 93 #[.slice A ds.length c] w fun e w' => ∃ b, e = .returned (.map (some b)) ∧ w.heap.size ≤ b ∧ MapF w' b 262144 (waysF ds) (nz (waysF ds)) ∧ Below w.heap.size w w' := by
  have hmm := @run_makeMap Try.prog
  have HD := Lib.hid hd
  have HR := Lib.hid hr
  have HW := Lib.hid (waysOk_take ds hd)
  clear hd hr
  have hb0 : Below w.heap.size w (w.alloc (.map #[] 0)) := (Below.refl _ _).alloc (Nat.le_refl _) _
  go_enter Try.func93, Try.ntmps93
  go_wp2_with (first
    | (refine wpList_ins _ rfl _ _ _ rfl rfl (MapF.new _) (by omega) _ _ rfl rfl (by unfold W64; omega) (by unfold W64; omega) ?_; intro w1 hm1 hg1))
  have hm1' : MapF w1 w.heap.size 1 one0 (nz one0) := hm1.congr (fun x _ => by unfold upd one0; rfl) (fun x _ => by unfold ins nz one0; by_cases h : x = 0 <;> simp [h])
  have hb1 : Below w.heap.size w w1 := hb0.grown hg1 (by simp) (fun j hj => by cases hj; exact Nat.le_refl _)
  clear hb0 hm1 hg1
  go_loopw [3, 15] (fun v i wr => ∃ k b : Nat, k ≤ ds.length ∧ i = .int .i64 k ∧ v = .map (some b) ∧ w.heap.size ≤ b ∧ MapF wr b (8 ^ k) (waysF (ds.take k)) (nz (waysF (ds.take k))) ∧ Below w.heap.size w wr) (fun _ i _ => ds.length - (intOf i).toNat)
  case atStart => exact ⟨0, w.heap.size, by omega, rfl, rfl, Nat.le_refl _, hm1', hb1⟩
  case round =>
    clear hm1' hb1
    obtain ⟨k, b, hk, rfl, rfl, hbw, hmap, hB⟩ := hrel
    by_cases hlt : k < ds.length
    · obtain ⟨bb, o, a, cd, d, hA, hb, hdk, hc0, _, hri⟩ := HR.out.at_ hlt
      subst hA
      have hc : wr.cell? ⟨bb, o + k, none⟩ = some (.slice a d.length cd) := (hB.cell (p := ⟨bb, o + k, none⟩) hb).trans hc0
      clear hc0
      have HDK := Lib.hid hdk
      have hok := HD.out d (List.mem_of_getElem? hdk)
      have HOK := Lib.hid hok
      have hdl : d.length ≤ 8 := hok.1
      have hwk := HW.out k (by omega)
      have HS := Lib.hid (waysF_snoc ds k d hdk)
      have hM : 8 ^ k ≤ 32768 := by
        have := Nat.pow_le_pow_right (n := 8) (by omega) (show k ≤ 5 by omega)
        simpa using this
      have HM' := Lib.hid (show 8 ^ (k + 1) = 8 * 8 ^ k by rw [Nat.pow_succ, Nat.mul_comm])
      generalize 8 ^ k = M at hmap hwk hM HM'
      generalize waysF (ds.take k) = f at hmap hwk HS
      have HWK := Lib.hid hwk
      have HRI := Lib.hid hri
      have hcB := hb
      clear hok hwk hdk hri
      have hlt' := hmap.lt
      go_wp2_with (first
        | (at_range; refine wpList_rng _ rfl _ rfl rfl (hmap.alloc _) ?_; intro w0 cnt0 hc0 hrg0 hg0 hs0))
      go_frame
      have es : (wr.alloc (.map #[] 0)).heap.size = wr.heap.size + 1 := by simp
      rw [es] at hrg0 hs0 ⊢
      have hmore0 := ((MapF.new wr).kept hg0 (by simp)).congr (f' := fun s => cv f (fun _ y => nz f y) d 0 s) (S' := nz (fun s => cv f (fun _ y => nz f y) d 0 s)) (fun x _ => (cv_none d 0 x).symm) (fun x _ => by show false = decide (cv f (fun _ y => nz f y) d 0 x ≠ 0); rw [cv_none]; rfl)
      have hB0 : Below w.heap.size w w0 := (hB.alloc hB.size _).grown hg0 (by have := hB.size; simp; omega) (fun j hj => by cases hj)
      have hwr := hB.size
      obtain ⟨m, hm⟩ : ∃ m, m = wr.heap.size := ⟨_, rfl⟩
      rw [← hm] at hrg0 hs0 hmore0 hwr hlt' ⊢
      clear es hB hmap hg0 hs0 hm hc
      go_loopw [7] (fun _ wq => ∃ (left : Int → Bool) (cnt : Nat), cnt ≤ M ∧ MapR wq b (m + 1) M f (nz f) left cnt ∧ Hid (∀ y, left y = true → f y ≠ 0) ∧
          MapF wq m ((M - cnt) * 8) (fun s => cv f (fun _ y => left y) d 0 s) (nz (fun s => cv f (fun _ y => left y) d 0 s)) ∧ Below w.heap.size w wq)
        (fun _ wq => wq.rangeLeft b (m + 1))
      case atStart => exact ⟨_, cnt0, hc0, hrg0, (fun y hy => nz_iff.1 hy), hmore0.mono (Nat.zero_le _), hB0⟩
      case round =>
        clear hmore0 hB0 hrg0
        obtain ⟨left, cnt, hcM, hrg, hleft, hmore, hBq⟩ := hrel
        have HL := hleft
        clear hleft
        go_wp2_with (first
          | (at_next; refine wpList_nxt _ rfl _ rfl rfl hrg ?_ ?_))
        · intro hc0 hl0
          subst hc0
          have hend : ∀ z, cv f (fun _ y => left y) d 0 z = waysF (ds.take (k + 1)) z := fun z => by
            rw [HS.out, conv]
            refine cv_congr d 0 z fun _ y _ _ => ?_
            cases h : left y
            · rfl
            · have h1 := HWK.out.2 y (HL.out y h)
              rw [hl0 y ⟨by omega, by omega⟩] at h
              cases h
          have HE := Lib.hid ((hmore.congr (f' := waysF (ds.take (k + 1))) (S' := nz (waysF (ds.take (k + 1)))) (fun z _ => hend z) (fun z _ => by unfold nz; simp only [hend z])).mono (n' := 8 ^ (k + 1)) (by rw [HM'.out]; omega))
          clear hend hl0 hmore
          go_wp2
          go_roundw
          case rel => exact ⟨k + 1, m, by omega, by go_num, rfl, by omega, HE.out, hBq⟩
          case measure => simp [intOf]; omega
        · intro x w1 cnt1 hx hfx hlx hSx hrg1 hlt1 hg1 hs1 hen
          have hmne : m ≠ b := by omega
          have hmore1 := hmore.kept hg1 (by simp)
          have hB1 : Below w.heap.size w w1 := hBq.grown hg1 hBq.size (fun j hj => by cases hj; omega)
          have hxne := HL.out x hlx
          have hxr := HWK.out.2 x hxne
          have hfr := HWK.out.1 x
          have hf1 : 1 ≤ f x := by omega
          have HLX := Lib.hid hlx
          have HX := Lib.hid hx
          have HMe := Lib.hid hrg.left_eq
          clear hmore hxne hSx hx hlx hfx hg1 hs1 hrg
          go_wp2
          clear hen
          go_loopw [29] (fun i wk => ∃ (j : Nat) (g : Int → Int), j ≤ d.length ∧ i = .int .i64 j ∧ Hid (g = fun s => cv f (todo left x j) d 0 s) ∧ MapR wk b (m + 1) M f (nz f) (but left x) cnt1 ∧
            MapF wk m ((M - cnt) * 8 + j) g (nz g) ∧ Below w.heap.size w wk) (fun i _ => d.length - (intOf i).toNat)
          case atStart => exact ⟨0, _, by omega, rfl, (by show _ = _; rw [todo_zero]), hrg1, hmore1, hB1⟩
          case round =>
            clear hmore1 hB1 hrg1
            obtain ⟨j, g, hj, rfl, hg, hrg1, hmore, hBk⟩ := hrel
            have HG := hg
            clear hg
            by_cases hlt2 : j < d.length
            · obtain ⟨b', o', y, hA', hb', hy, hcy0⟩ := HRI.out.at_ hlt2
              subst hA'
              have hcy : wr.cell? ⟨b', o' + j, none⟩ = some (.int .i64 y) := (hBk.cell (p := ⟨b', o' + j, none⟩) hb').trans hcy0
              have hyr := HOK.out.2 y (List.mem_of_getElem? hy)
              have HY := Lib.hid hy
              have hgr : 0 ≤ g (x + y) ∧ g (x + y) ≤ 262144 := by
                rw [HG.out]
                have := (waysOk_cv (t := todo left x j) HWK.out HOK.out).1 (x + y)
                omega
              have hW1 : W64 (x + y) := ⟨by omega, by omega⟩
              have hW2 : W64 (g (x + y) + f x) := ⟨by omega, by omega⟩
              have HW1 := Lib.hid hW1
              have HW2 := Lib.hid hW2
              clear hcy0 hy hW1 hW2
              go_wp2_with (first
                | (at_lookup; refine wpList_look _ rfl _ _ rfl rfl hmore _ rfl HW1.out ?_)
                | (at_mapUpdate; refine wpList_store _ rfl _ _ _ rfl rfl hmore (by omega) _ _ rfl rfl HW1.out HW2.out ?_; intro w2 hmore2 hg2))
              have hstep : ∀ z, cv f (todo left x (j + 1)) d 0 z = g z + if z = x + y then f x else 0 := fun z => by
                rw [HG.out]
                exact cv_step (todo_at HLX.out) (fun i y => todo_step left x j i y) d j 0 y z HY.out (by omega)
              have HF2 := Lib.hid (hmore2.congr (f' := fun s => cv f (todo left x (j + 1)) d 0 s) (S' := nz (fun s => cv f (todo left x (j + 1)) d 0 s))
                (fun z _ => by rw [hstep z]; unfold upd; by_cases e : z = x + y <;> simp [e])
                (fun z _ => by
                  unfold ins nz
                  simp only [hstep z]
                  by_cases e : z = x + y
                  · have : g (x + y) + f x ≠ 0 := by omega
                    simp [e, this]
                  · simp [e]))
              have hrg2 := hrg1.kept hg2 (by simp; omega) (by simp)
              have hB2 : Below w.heap.size w _ := hBk.grown hg2 hBk.size (fun j hj => by cases hj; omega)
              clear hstep hmore2 hg2
              go_roundw
              case rel => exact ⟨j + 1, _, by omega, by go_num, rfl, hrg2, HF2.out, hB2⟩
              case measure => simp [intOf]; omega
            · obtain rfl : j = d.length := by omega
              have HG2 := Lib.hid (show g = fun s => cv f (fun _ z => but left x z) d 0 s by rw [HG.out]; funext z; exact cv_todo_end f left x d z)
              go_wp2_with fail
              go_roundw
              case rel =>
                refine ⟨_, cnt1, by omega, hrg1, (fun z hz => HL.out z (by unfold but at hz; simp at hz; exact hz.1)), ?_, hBk⟩
                have hh := hmore.mono (n' := (M - cnt1) * 8) (by omega)
                rw [HG2.out] at hh
                exact hh
              case measure => rw [hrg1.left_eq, HMe.out]; exact hlt1
    · obtain rfl : k = ds.length := by omega
      go_wp2_with fail
      go_ret
      have h8 : 8 ^ ds.length ≤ 262144 := by
        have := Nat.pow_le_pow_right (n := 8) (by omega) hl
        simpa using this
      rw [List.take_length] at hmap
      exact ⟨b, rfl, hbw, hmap.mono h8, hB⟩

end Go.Proofs.Ythbhengcinkepaa.Dic
