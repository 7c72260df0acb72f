/- The closure grow inside pairs of package dice: it finds just what the plain search finds, and gives all back. -/
import Derived.Test.YtkkholagmjcgiaaPairs1
import Derived.Test.YtkkholagmjcgiaaPairs2
import Derived.Deep.LoopGhost
namespace Go.Proofs.Ytkkholagmjcgiaa
open Go.RowKit Go.Maps

/-- The closure's contract, for k calls that are still to come. -/
def GrowC (E : Env) (k : Nat) : Prop := ∀ (Z : Nat → Prop) (w : World) (at_ : Nat) (barred : Int) (g0 k0 g1 k1 : Nat) (fv : Value) (c d : List Int) (f : Int → Int) (F : List (List Int × List Int)), St E Z w g0 k0 g1 k1 fv c d f F →
  Inv E.n E.m E.sums at_ c d f → E.n + E.m < c.length + d.length + k → -1 ≤ barred → barred ≤ 100000 → at_ ≤ 100000 → F.length + 2 ^ k ≤ 1000000 →
    Calls Try.prog 98 #[.int .i64 at_, .int .i64 barred, .pointer (some ⟨E.Bp, 0, none⟩), .pointer (some ⟨E.Bs, 0, none⟩), .pointer (some ⟨E.Bf, 0, none⟩), .pointer (some ⟨E.Bl, 0, none⟩), .pointer (some ⟨E.Bq, 0, none⟩), .pointer (some ⟨E.Bg, 0, none⟩)] w fun e w' => e = .returned (.tuple #[]) ∧ Post E Z w g0 k0 g1 k1 fv c d f (F ++ growL k E.n E.m E.sums at_ barred c d f) w'

theorem head_nonneg {n m : Nat} {sums : List Int} {at_ : Nat} {c d : List Int} {f : Int → Int} (h : Inv n m sums at_ c d f) : 0 ≤ c.headD 0 ∧ 0 ≤ d.headD 0 ∧ c.headD 0 ≤ 60 ∧ d.headD 0 ≤ 60 := by
  have hc := h.ce
  have hd := h.de
  cases c with
  | nil => cases d with
    | nil => simp
    | cons y r => have := hd y (by simp); simp; omega
  | cons x r => cases d with
    | nil => have := hc x (by simp); simp; omega
    | cons y r => have := hd y (by simp); have := hc x (by simp); simp; omega

set_option maxRecDepth 100000 in
set_option maxHeartbeats 4000000 in
theorem grow_search (E : Env) (k : Nat) (IH0 : GrowC E k) (Z : Nat → Prop) (w : World) (at_ : Nat) (barred : Int) (g0 k0 g1 k1 : Nat) (fv : Value) (c d : List Int) (f : Int → Int) (F : List (List Int × List Int)) (h : St E Z w g0 k0 g1 k1 fv c d f F)
    (hinv : Inv E.n E.m E.sums at_ c d f) (hk : E.n + E.m < c.length + d.length + (k + 1)) (hb1 : -1 ≤ barred) (hb2 : barred ≤ 100000) (_ : at_ ≤ 100000) (hF : F.length + 2 ^ (k + 1) ≤ 1000000) (hne : ¬ (c.length = E.n ∧ d.length = E.m)) :
    Calls Try.prog 98 (#[.int .i64 at_, .int .i64 barred] ++ E.caps) w fun e w' => e = .returned (.tuple #[]) ∧ Post E Z w g0 k0 g1 k1 fv c d f (F ++ growL (k + 1) E.n E.m E.sums at_ barred c d f) w' := by
  have IH := Lib.hid IH0
  have H := Lib.hid h
  have HI := Lib.hid hinv
  have HNE := Lib.hid hne
  have HK := Lib.hid hk
  have HF := Lib.hid hF
  obtain ⟨p0, p1, s0, s1, cl, cq, cg⟩ := h.cells
  obtain ⟨hfa, s, hs, hfs, hz⟩ := hinv.find hne
  have HS := Lib.hid hs
  have HZ := Lib.hid hz
  have hal : findAt f E.sums at_ < E.sums.length := (List.getElem?_eq_some_iff.1 hs).1
  obtain ⟨a, ha⟩ : ∃ a, a = findAt f E.sums at_ := ⟨_, rfl⟩
  have HA := Lib.hid ha
  rw [← ha] at hfa hal HS HZ
  have hsl := h.env.sl
  clear IH0 h hinv hne hk hF hs hz ha
  show Calls Try.prog _ #[.int .i64 at_, .int .i64 barred, .pointer (some ⟨E.Bp, 0, none⟩), .pointer (some ⟨E.Bs, 0, none⟩), .pointer (some ⟨E.Bf, 0, none⟩), .pointer (some ⟨E.Bl, 0, none⟩), .pointer (some ⟨E.Bq, 0, none⟩), .pointer (some ⟨E.Bg, 0, none⟩)] w _
  go_enter Try.func98, Try.ntmps98
  go_wp2_with fail
  go_step3
  go_upto_region 0 with (fail)
  go_cut [29] (fun s29 wx => s29 = .bool false ∧ w = wx)
  case first =>
    by_cases hcn : c.length = E.n
    · have t0 : ((c.length : Int) == (E.n : Int)) = true := by rw [hcn]; simp
      have t1 : ((d.length : Int) == (E.m : Int)) = false := by rw [beq_eq_false_iff_ne]; intro e; exact HNE.out ⟨hcn, by omega⟩
      clear hcn
      go_wp2_with fail
      go_meet
      exact ⟨rfl, rfl⟩
    · have t0 : ((c.length : Int) == (E.n : Int)) = false := by rw [beq_eq_false_iff_ne]; intro e; exact hcn (by omega)
      clear hcn
      go_wp2_with fail
      go_meet
      exact ⟨rfl, rfl⟩
  case rest =>
    obtain ⟨rfl, rfl⟩ := hcut
    go_wp2_with fail
    go_loopg [0] (a - at_) (fun g v wx => ∃ (j nq : Nat), j + g = a ∧ at_ ≤ j ∧ v = .int .i64 j ∧ wx = w.drewN nq)
    case atStart => exact ⟨at_, 0, by omega, Nat.le_refl _, rfl, rfl⟩
    case round =>
      obtain ⟨j, nq0, hjg, hja, rfl, rfl⟩ := hrel
      have hjl : (j : Int) < (E.sums.length : Int) := by omega
      cases gk with
      | succ g =>
        obtain ⟨t, ht, hft⟩ := HZ.out j hja (by omega)
        have hcell := H.out.env.sr.at_ ht
        have hts := HI.out.se t (List.mem_of_getElem? ht)
        have hW : W64 t := ⟨by have := head_nonneg HI.out; omega, by omega⟩
        have hlk : ∀ q, (Instr.lookup 80 (.map (some E.M)) (.int .i64 t) false).run Try.prog (w.drewN q) = .ok (.int .i64 0) (w.drewN q) := fun q => by
          have := (H.out.map.drewN q).run _ hW
          rw [hft] at this
          exact this
        clear ht hft hW hts
        go_wp2_with fail
        go_quiet (fail)
        go_wp2_with fail
        go_roundg g
        case measure => omega
        case rel => exact ⟨j + 1, _, by omega, by omega, by go_num, rfl⟩
      | zero =>
        obtain rfl : j = a := by omega
        have hcell := H.out.env.sr.at_ HS.out
        have hsse := HI.out.se s (List.mem_of_getElem? HS.out)
        have hh0 := head_nonneg HI.out
        have hW : W64 s := ⟨by omega, by omega⟩
        have hlk : ∀ q, (Instr.lookup 80 (.map (some E.M)) (.int .i64 s) false).run Try.prog (w.drewN q) = .ok (.int .i64 (f s)) (w.drewN q) := fun q => (H.out.map.drewN q).run _ hW
        have hfn : (f s == 0) = false := by rw [beq_eq_false_iff_ne]; exact hfs
        clear hW
        go_wp2_with fail
        go_quiet (fail)
        go_wp2_with fail
        clear hlk hcell hjl hfn
        obtain ⟨wz, hwz⟩ : ∃ wz, (w.drewN nq0).drewN nq = wz := ⟨_, rfl⟩
        have HP := Lib.hid (show Post E Z w g0 k0 g1 k1 fv c d f F wz from hwz ▸ ((Post.start H.out).drewN nq0).drewN nq)
        rw [hwz]
        clear hwz
        go_step3
        go_wp2_with fail
        go_loopg [49] 2 (fun g v wx => ∃ i : Nat, i + g = 2 ∧ v = .int .i64 i ∧ Post E Z w g0 k0 g1 k1 fv c d f (F ++ (if i = 0 then [] else if i = 1 then br1 k E.n E.m E.sums j barred c d f s else br1 k E.n E.m E.sums j barred c d f s ++ br2 k E.n E.m E.sums j c d f s)) wx)
        case atStart => exact ⟨0, by omega, rfl, by rw [if_pos rfl, List.append_nil]; exact HP.out⟩
        case round =>
          obtain ⟨i, hig, rfl, hP⟩ := hrel
          have hi3 : i = 0 ∨ i = 1 ∨ i = 2 := by omega
          rcases hi3 with rfl | rfl | rfl
          · obtain rfl : gk = 2 := by omega
            rw [if_pos rfl, List.append_nil] at hP
            obtain ⟨fv', hst, hT, hfv⟩ := hP
            obtain ⟨q0, q1, z0, z1, ql, qq, qg⟩ := hst.cells
            have HST := Lib.hid hst
            have HP2 := Lib.hid (show Post E Z w g0 k0 g1 k1 fv c d f F wr from ⟨fv', hst, hT, hfv⟩)
            have hcell := hst.env.sr.at_ HS.out
            have hoc := hst.own1.at_ (head_at HI.out.dl.1)
            have hdl := HI.out.cl
            have hol := HI.out.dl
            have hnm := HI.out.nm
            obtain ⟨hh1, hh2, hh3, hh4⟩ := hh0
            have hjl : (j : Int) < (E.sums.length : Int) := by omega
            obtain ⟨x0, hx0⟩ : ∃ x0, d.headD 0 = x0 := ⟨_, rfl⟩
            rw [hx0] at hoc hh2 hh4
            obtain ⟨y, hy⟩ : ∃ y, s - x0 = y := ⟨_, rfl⟩
            have HX0 := Lib.hid (show s - d.headD 0 = y by rw [hx0, hy])
            have hy1 : -1000 ≤ y := by omega
            have hy2 : y ≤ 1000 := by omega
            have hwy : IntKind.i64.wrap (s - x0) = y := by rw [hy]; exact IntWalk.i64_in _ (by omega)
            have hwy2 : wrap64 (s - x0) = y := (IntWalk.wrap64_in _ ⟨by omega, by omega⟩).trans hy
            have hwb : 0 ≤ x0 ∧ x0 ≤ 60 := by omega
            clear hy
            have hol2 : (0 : Int) < (d.length : Int) := by omega
            clear hst hT hfv hx0
            by_cases hn : c.length = E.n
            · have tn : ((c.length : Int) == (E.n : Int)) = true := by rw [hn]; simp
              have HB := Lib.hid (show br1 k E.n E.m E.sums j barred c d f s = [] by unfold br1; rw [if_pos (.inl hn)])
              clear hn
              go_wp2_with fail
              go_quiet (fail)
              go_wp2_with fail
              go_quiet (fail)
              go_wp2_with fail
              go_roundg 1
              case measure => omega
              case rel => exact ⟨1, by omega, rfl, by rw [if_neg (by decide), if_pos rfl, HB.out, List.append_nil]; first | exact HP2.out.drewN _ | exact (HP2.out.drewN _).drewN _⟩
            · have tn : ((c.length : Int) == (E.n : Int)) = false := by rw [beq_eq_false_iff_ne]; omega
              by_cases h60 : 60 < y
              · have HB := Lib.hid (show br1 k E.n E.m E.sums j barred c d f s = [] by unfold br1; rw [HX0.out, if_pos (.inr (.inl h60))])
                clear hn
                go_wp2_with fail
                go_quiet (fail)
                go_wp2_with fail
                go_quiet (fail)
                go_wp2_with fail
                go_roundg 1
                case measure => omega
                case rel => exact ⟨1, by omega, rfl, by rw [if_neg (by decide), if_pos rfl, HB.out, List.append_nil]; first | exact HP2.out.drewN _ | exact (HP2.out.drewN _).drewN _⟩
              · have h60' : y ≤ 60 := by omega
                have HN60 := Lib.hid h60
                have HN := Lib.hid hn
                clear h60 hn
                by_cases hbar : (j : Int) = barred
                · have tb : ((j : Int) == barred) = true := by rw [hbar]; simp
                  have HB := Lib.hid (show br1 k E.n E.m E.sums j barred c d f s = [] by unfold br1; rw [if_pos (.inr (.inr hbar))])
                  clear hbar
                  go_wp2_with fail
                  go_quiet (fail)
                  go_wp2_with fail
                  go_quiet (fail)
                  go_wp2_with fail
                  go_roundg 1
                  case measure => omega
                  case rel => exact ⟨1, by omega, rfl, by rw [if_neg (by decide), if_pos rfl, HB.out, List.append_nil]; first | exact HP2.out.drewN _ | exact (HP2.out.drewN _).drewN _⟩
                · have tb : ((j : Int) == barred) = false := by rw [beq_eq_false_iff_ne]; exact hbar
                  have HNB := Lib.hid hbar
                  clear hbar
                  go_wp2_with fail
                  go_quiet (fail)
                  obtain ⟨nqa, rfl⟩ : ∃ q, q = nq := ⟨_, rfl⟩
                  go_wp2_with fail
                  go_quiet (fail)
                  go_wp2_with fail
                  obtain ⟨wq, hwq⟩ : ∃ wq, wr.drewN (nqa + nq) = wq := ⟨_, rfl⟩
                  have HPQ := Lib.hid (show Post E Z w g0 k0 g1 k1 fv c d f F wq from hwq ▸ HP2.out.drewN _)
                  rw [hwq]
                  clear hwq HP2 HST q0 q1 z0 z1 ql qq qg hcell hoc hwy hwy2
                  go_loopg [88] d.length (fun g v wx => ∃ kk : Nat, kk + g = d.length ∧ v = .int .i64 kk ∧ Hid (okT f y (d.take kk) = true) ∧ Post E Z w g0 k0 g1 k1 fv c d (tk f y (d.take kk)) F wx)
                  case atStart => exact ⟨0, by omega, rfl, rfl, HPQ.out⟩
                  case round =>
                    obtain ⟨kk, hkg, rfl, hok, hP⟩ := hrel
                    have HOK := hok
                    clear hok
                    have HP2 := Lib.hid hP
                    obtain ⟨fv2, hst, hT2, hfv2⟩ := hP
                    have HT2 := Lib.hid hT2
                    have HFV2 := Lib.hid hfv2
                    clear hT2 hfv2
                    have HST := Lib.hid hst
                    cases gk with
                    | succ g =>
                      obtain ⟨z, hz⟩ : ∃ z, d[kk]? = some z := ⟨_, List.getElem?_eq_getElem (by omega)⟩
                      have hzr := HI.out.de z (List.mem_of_getElem? hz)
                      have hzc := hst.own1.at_ hz
                      have ql := hst.cells.2.2.2.2.1
                      have hf0 : ∀ v, 0 ≤ f v := fun v => (HI.out.rng v).1
                      have HTS := Lib.hid (tk_snoc f y d kk z hz)
                      have HOS := Lib.hid (okT_snoc f y d kk z hz)
                      have HOF := Lib.hid (okT_false f y d kk z hz)
                      have hn0 := okT_nonneg y (d.take kk) f hf0 HOK.out (y + z)
                      have hn1 : tk f y (d.take kk) (y + z) ≤ f (y + z) := by rw [tk_eq]; have := cnt_nonneg y (d.take kk) (y + z); omega
                      have hn2 := (HI.out.rng (y + z)).2
                      obtain ⟨f2, hf2⟩ : ∃ f2, tk f y (d.take kk) = f2 := ⟨_, rfl⟩
                      have HF2 := Lib.hid hf2
                      rw [hf2] at hn0 hn1
                      have HTS2 := Lib.hid (show tk f y (d.take (kk + 1)) = upd f2 (y + z) (f2 (y + z) - 1) by rw [HTS.out, hf2])
                      have HOS2 := Lib.hid (show f2 (y + z) ≠ 0 → okT f y (d.take (kk + 1)) = true from fun e => by rw [HOS.out, HOK.out, hf2]; simpa using e)
                      have HOF2 := Lib.hid (show f2 (y + z) = 0 → okT f y d = false from fun e => HOF.out (by rw [hf2]; exact e))
                      have hmap : MapF wr E.M E.N f2 E.S := hf2 ▸ hst.map
                      have HKEY := Lib.hid (show f2 (y + z) ≠ 0 → E.S (y + z) = true from fun e => hst.env.keys _ (HI.out.key _ (by intro e2; omega)))
                      have HW1 := Lib.hid (show W64 (y + z) from ⟨by omega, by omega⟩)
                      have HW2 := Lib.hid (show W64 (f2 (y + z) - 1) from ⟨by omega, by omega⟩)
                      have hkl : (kk : Int) < (d.length : Int) := by omega
                      have hnn := hst.env.nn
                      clear HTS HOS HOF hst hz hf2 hf0
                      by_cases hz0 : f2 (y + z) = 0
                      · have tz : (f2 (y + z) == 0) = true := by rw [hz0]; rfl
                        have HZ0 := Lib.hid hz0
                        clear hz0
                        go_wp2_with (first
                          | (at_lookup; refine wpList_look _ rfl _ _ rfl rfl hmap _ rfl HW1.out ?_))
                        have hkc : kk ≤ k1 := by have := HST.out.own1.cap; omega
                        have HB := Lib.hid (show br1 k E.n E.m E.sums j barred c d f s = [] by unfold br1; rw [HX0.out, if_neg (fun h => h.elim HN.out fun h => h.elim (fun h => by have := HN60.out; omega) HNB.out), HOF2.out HZ0.out]; rfl)
                        go_still_tail 5, (by kernel_rfl)
                        go_wp2_with fail
                        refine (St.give1 (show St E Z wr.drew g0 k0 g1 k1 fv2 c d (tk f y (d.take kk)) F from HST.out.drewN 1) (by omega) (by omega) HI.out.de ⟨hy1, hy2⟩ HI.out.rng HOK.out (fun v hv => HST.out.env.keys v (HI.out.key v hv))).mono ?_
                        rintro e w6 ⟨rfl, hm6, hg6⟩
                        have HPE := Lib.hid (Post.remap (show Post E Z w g0 k0 g1 k1 fv c d (tk f y (d.take kk)) F wr.drew from HP2.out.drewN 1) hg6 hm6)
                        clear hm6 hg6
                        go_wp2_with fail
                        go_roundg 1
                        case measure => omega
                        case rel => exact ⟨1, by omega, rfl, by rw [if_neg (by decide), if_pos rfl, HB.out, List.append_nil]; exact HPE.out⟩
                      · have tz : (f2 (y + z) == 0) = false := by rw [beq_eq_false_iff_ne]; exact hz0
                        have HZ0 := Lib.hid hz0
                        clear hz0
                        have HS0 := Lib.hid (HKEY.out HZ0.out)
                        go_wp2_with (first
                          | (at_lookup; refine wpList_look _ rfl _ _ rfl rfl hmap _ rfl HW1.out ?_)
                          | (at_mapUpdate; refine wpList_put _ rfl _ _ _ rfl rfl hmap hnn _ _ rfl rfl HW1.out HW2.out HS0.out ?_; intro w2 hmap2 hg2))
                        have HPN := Lib.hid (HP2.out.remap hg2 (HTS2.out ▸ hmap2))
                        have HOK2 := Lib.hid (HOS2.out HZ0.out)
                        clear hmap2 hg2
                        go_roundg g
                        case measure => omega
                        case rel => exact ⟨kk + 1, by omega, by go_num, HOK2.out, HPN.out⟩
                    | zero =>
                      obtain rfl : kk = d.length := by omega
                      have HOKF := Lib.hid (show okT f y d = true by have := HOK.out; rwa [List.take_length] at this)
                      have HSTF := Lib.hid (show St E Z wr g0 k0 g1 k1 fv2 c d (tk f y d) F by have := HST.out; rwa [List.take_length] at this)
                      have HINV := Lib.hid (show Inv E.n E.m E.sums j (c ++ [y]) d (tk f y d) by have := HI.out.grow1 HNE.out (s := s) (by rw [← HA.out]; exact HS.out) HN.out (by rw [HX0.out]; exact h60') (by rw [HX0.out]; exact HOKF.out); rw [HX0.out, ← HA.out] at this; exact this)
                      have HBR := Lib.hid (show br1 k E.n E.m E.sums j barred c d f s = growL k E.n E.m E.sums j barred (c ++ [y]) d (tk f y d) by unfold br1; rw [HX0.out, if_neg (fun h => h.elim HN.out fun h => h.elim (fun h => by have := HN60.out; omega) HNB.out), if_pos HOKF.out])
                      have HLEN := Lib.hid (show F.length + 2 ^ k ≤ 1000000 by have := HF.out; rw [Nat.pow_succ] at this; omega)
                      have HOWN := Lib.hid hst.own0
                      have hD8 : c.length ≤ 8 := by omega
                      have hcn : ∀ (o : Value), (wr.alloc (Obj.cells #[o] 3)).cell? ⟨wr.heap.size, 0, none⟩ = some o := fun o => (Box.new wr 3 #[o]).cell 0
                      have HCN := Lib.hid hcn
                      clear hst HP2 hcn
                      go_wp2_with (first
                        | (at_builtin; refine wpList_app1 _ rfl _ _ rfl (HOWN.out.alloc _) rfl wr.heap.size 1 y rfl (HCN.out _) (by omega) ?_; intro gn kn w4 hown4 hat4; have pc4 := (HSTF.out.pair40 hat4).cell 0; have pf4 := (HSTF.out.pair40 hat4).free 0; simp only [List.getElem?_toArray, List.getElem?_cons_zero] at pc4; have HPUT := Lib.hid (HSTF.out.put0 hown4 hat4); have qg5 : (w4.setCell ⟨E.Bp, 0, none⟩ (.slice (some ⟨gn, 0, none⟩) (c.length + 1) kn)).cell? ⟨E.Bg, 0, none⟩ = some (.func (.func 98) #[] #[.pointer (some ⟨E.Bp, 0, none⟩), .pointer (some ⟨E.Bs, 0, none⟩), .pointer (some ⟨E.Bf, 0, none⟩), .pointer (some ⟨E.Bl, 0, none⟩), .pointer (some ⟨E.Bq, 0, none⟩), .pointer (some ⟨E.Bg, 0, none⟩)]) := HPUT.out.1.cells.2.2.2.2.2.2; clear hown4 hat4))
                      refine (IH.out (fun i => Z i ∨ i = gn) _ j barred gn kn g1 k1 fv2 (c ++ [y]) d (tk f y d) F HPUT.out.1 HINV.out (by have := HK.out; simp only [List.length_append, List.length_singleton]; omega) (by omega) (by omega) (by omega) HLEN.out).mono ?_
                      rintro e w6 ⟨rfl, fv6, hst6, hT6, hfv6⟩
                      have pc6 := hst6.pair.cell 0
                      have pf6 := hst6.pair.free 0
                      simp only [List.getElem?_toArray, List.getElem?_cons_zero] at pc6
                      have hB6 := HSTF.out.back0 HPUT.out.2.1 HPUT.out.2.2 hst6 hT6 hfv6
                      have HB6 := Lib.hid hB6
                      obtain ⟨fv7, hst7, _, _⟩ := hB6
                      have ql7 := hst7.cells.2.2.2.2.1
                      have HST7 := Lib.hid hst7
                      clear hst6 hT6 hfv6 hst7 qg5 pc4 pf4
                      go_wp2_with fail
                      refine (St.give1 (kk := d.length) (show St E Z _ g0 k0 g1 k1 fv7 c d (tk f y (d.take d.length)) _ by rw [List.take_length]; exact HST7.out) (Nat.le_refl _) (by omega) HI.out.de ⟨hy1, hy2⟩ HI.out.rng (by rw [List.take_length]; exact HOKF.out) (fun v hv => HST7.out.env.keys v (HI.out.key v hv))).mono ?_
                      rintro e w8 ⟨rfl, hm8, hg8⟩
                      have HPE := Lib.hid (Post.remap (Post.trans HT2.out HFV2.out HB6.out) hg8 hm8)
                      clear hm8 hg8
                      go_wp2_with fail
                      go_roundg 1
                      case measure => omega
                      case rel => exact ⟨1, by omega, rfl, by rw [if_neg (by decide), if_pos rfl, HBR.out]; exact HPE.out⟩
          · obtain rfl : gk = 1 := by omega
            rw [if_neg (by decide), if_pos rfl] at hP
            obtain ⟨fv', hst, hT, hfv⟩ := hP
            obtain ⟨q0, q1, z0, z1, ql, qq, qg⟩ := hst.cells
            have HST := Lib.hid hst
            have HP2 := Lib.hid (show Post E Z w g0 k0 g1 k1 fv c d f (F ++ br1 k E.n E.m E.sums j barred c d f s) wr from ⟨fv', hst, hT, hfv⟩)
            have hcell := hst.env.sr.at_ HS.out
            have hoc := hst.own0.at_ (head_at HI.out.cl.1)
            have hdl := HI.out.dl
            have hol := HI.out.cl
            have hnm := HI.out.nm
            obtain ⟨hh1, hh2, hh3, hh4⟩ := hh0
            have hjl : (j : Int) < (E.sums.length : Int) := by omega
            obtain ⟨x0, hx0⟩ : ∃ x0, c.headD 0 = x0 := ⟨_, rfl⟩
            rw [hx0] at hoc hh1 hh3
            obtain ⟨y, hy⟩ : ∃ y, s - x0 = y := ⟨_, rfl⟩
            have HX0 := Lib.hid (show s - c.headD 0 = y by rw [hx0, hy])
            have hy1 : -1000 ≤ y := by omega
            have hy2 : y ≤ 1000 := by omega
            have hwy : IntKind.i64.wrap (s - x0) = y := by rw [hy]; exact IntWalk.i64_in _ (by omega)
            have hwy2 : wrap64 (s - x0) = y := (IntWalk.wrap64_in _ ⟨by omega, by omega⟩).trans hy
            have hwb : 0 ≤ x0 ∧ x0 ≤ 60 := by omega
            clear hy
            have hol2 : (0 : Int) < (c.length : Int) := by omega
            clear hst hT hfv hx0
            by_cases hn : d.length = E.m
            · have tn : ((d.length : Int) == (E.m : Int)) = true := by rw [hn]; simp
              have HB := Lib.hid (show br2 k E.n E.m E.sums j c d f s = [] by unfold br2; rw [if_pos (.inl hn)])
              clear hn
              go_wp2_with fail
              go_quiet (fail)
              go_wp2_with fail
              go_quiet (fail)
              go_wp2_with fail
              go_roundg 0
              case measure => omega
              case rel => exact ⟨2, by omega, rfl, by rw [if_neg (by decide), if_neg (by decide), HB.out, List.append_nil]; first | exact HP2.out.drewN _ | exact (HP2.out.drewN _).drewN _⟩
            · have tn : ((d.length : Int) == (E.m : Int)) = false := by rw [beq_eq_false_iff_ne]; omega
              by_cases h60 : 60 < y
              · have HB := Lib.hid (show br2 k E.n E.m E.sums j c d f s = [] by unfold br2; rw [HX0.out, if_pos (.inr h60)])
                clear hn
                go_wp2_with fail
                go_quiet (fail)
                go_wp2_with fail
                go_quiet (fail)
                go_wp2_with fail
                go_roundg 0
                case measure => omega
                case rel => exact ⟨2, by omega, rfl, by rw [if_neg (by decide), if_neg (by decide), HB.out, List.append_nil]; first | exact HP2.out.drewN _ | exact (HP2.out.drewN _).drewN _⟩
              · have h60' : y ≤ 60 := by omega
                have HN60 := Lib.hid h60
                have HN := Lib.hid hn
                clear h60 hn

                go_wp2_with fail
                go_quiet (fail)
                obtain ⟨nqa, rfl⟩ : ∃ q, q = nq := ⟨_, rfl⟩
                go_wp2_with fail
                go_quiet (fail)
                go_wp2_with fail
                obtain ⟨wq, hwq⟩ : ∃ wq, wr.drewN (nqa + nq) = wq := ⟨_, rfl⟩
                have HPQ := Lib.hid (show Post E Z w g0 k0 g1 k1 fv c d f (F ++ br1 k E.n E.m E.sums j barred c d f s) wq from hwq ▸ HP2.out.drewN _)
                rw [hwq]
                clear hwq HP2 HST q0 q1 z0 z1 ql qq qg hcell hoc hwy hwy2
                go_loopg [88] c.length (fun g v wx => ∃ kk : Nat, kk + g = c.length ∧ v = .int .i64 kk ∧ Hid (okT f y (c.take kk) = true) ∧ Post E Z w g0 k0 g1 k1 fv c d (tk f y (c.take kk)) (F ++ br1 k E.n E.m E.sums j barred c d f s) wx)
                case atStart => exact ⟨0, by omega, rfl, rfl, HPQ.out⟩
                case round =>
                  obtain ⟨kk, hkg, rfl, hok, hP⟩ := hrel
                  have HOK := hok
                  clear hok
                  have HP2 := Lib.hid hP
                  obtain ⟨fv2, hst, hT2, hfv2⟩ := hP
                  have HT2 := Lib.hid hT2
                  have HFV2 := Lib.hid hfv2
                  clear hT2 hfv2
                  have HST := Lib.hid hst
                  cases gk with
                  | succ g =>
                    obtain ⟨z, hz⟩ : ∃ z, c[kk]? = some z := ⟨_, List.getElem?_eq_getElem (by omega)⟩
                    have hzr := HI.out.ce z (List.mem_of_getElem? hz)
                    have hzc := hst.own0.at_ hz
                    have ql := hst.cells.2.2.2.2.1
                    have hf0 : ∀ v, 0 ≤ f v := fun v => (HI.out.rng v).1
                    have HTS := Lib.hid (tk_snoc f y c kk z hz)
                    have HOS := Lib.hid (okT_snoc f y c kk z hz)
                    have HOF := Lib.hid (okT_false f y c kk z hz)
                    have hn0 := okT_nonneg y (c.take kk) f hf0 HOK.out (y + z)
                    have hn1 : tk f y (c.take kk) (y + z) ≤ f (y + z) := by rw [tk_eq]; have := cnt_nonneg y (c.take kk) (y + z); omega
                    have hn2 := (HI.out.rng (y + z)).2
                    obtain ⟨f2, hf2⟩ : ∃ f2, tk f y (c.take kk) = f2 := ⟨_, rfl⟩
                    have HF2 := Lib.hid hf2
                    rw [hf2] at hn0 hn1
                    have HTS2 := Lib.hid (show tk f y (c.take (kk + 1)) = upd f2 (y + z) (f2 (y + z) - 1) by rw [HTS.out, hf2])
                    have HOS2 := Lib.hid (show f2 (y + z) ≠ 0 → okT f y (c.take (kk + 1)) = true from fun e => by rw [HOS.out, HOK.out, hf2]; simpa using e)
                    have HOF2 := Lib.hid (show f2 (y + z) = 0 → okT f y c = false from fun e => HOF.out (by rw [hf2]; exact e))
                    have hmap : MapF wr E.M E.N f2 E.S := hf2 ▸ hst.map
                    have HKEY := Lib.hid (show f2 (y + z) ≠ 0 → E.S (y + z) = true from fun e => hst.env.keys _ (HI.out.key _ (by intro e2; omega)))
                    have HW1 := Lib.hid (show W64 (y + z) from ⟨by omega, by omega⟩)
                    have HW2 := Lib.hid (show W64 (f2 (y + z) - 1) from ⟨by omega, by omega⟩)
                    have hkl : (kk : Int) < (c.length : Int) := by omega
                    have hnn := hst.env.nn
                    clear HTS HOS HOF hst hz hf2 hf0
                    by_cases hz0 : f2 (y + z) = 0
                    · have tz : (f2 (y + z) == 0) = true := by rw [hz0]; rfl
                      have HZ0 := Lib.hid hz0
                      clear hz0
                      go_wp2_with (first
                        | (at_lookup; refine wpList_look _ rfl _ _ rfl rfl hmap _ rfl HW1.out ?_))
                      have hkc : kk ≤ k0 := by have := HST.out.own0.cap; omega
                      have HB := Lib.hid (show br2 k E.n E.m E.sums j c d f s = [] by unfold br2; rw [HX0.out, if_neg (fun h => h.elim HN.out (fun h => by have := HN60.out; omega)), HOF2.out HZ0.out]; rfl)
                      go_still_tail 5, (by kernel_rfl)
                      go_wp2_with fail
                      refine (St.give0 (show St E Z wr.drew g0 k0 g1 k1 fv2 c d (tk f y (c.take kk)) (F ++ br1 k E.n E.m E.sums j barred c d f s) from HST.out.drewN 1) (by omega) (by omega) HI.out.ce ⟨hy1, hy2⟩ HI.out.rng HOK.out (fun v hv => HST.out.env.keys v (HI.out.key v hv))).mono ?_
                      rintro e w6 ⟨rfl, hm6, hg6⟩
                      have HPE := Lib.hid (Post.remap (show Post E Z w g0 k0 g1 k1 fv c d (tk f y (c.take kk)) (F ++ br1 k E.n E.m E.sums j barred c d f s) wr.drew from HP2.out.drewN 1) hg6 hm6)
                      clear hm6 hg6
                      go_wp2_with fail
                      go_roundg 0
                      case measure => omega
                      case rel => exact ⟨2, by omega, rfl, by rw [if_neg (by decide), if_neg (by decide), HB.out, List.append_nil]; exact HPE.out⟩
                    · have tz : (f2 (y + z) == 0) = false := by rw [beq_eq_false_iff_ne]; exact hz0
                      have HZ0 := Lib.hid hz0
                      clear hz0
                      have HS0 := Lib.hid (HKEY.out HZ0.out)
                      go_wp2_with (first
                        | (at_lookup; refine wpList_look _ rfl _ _ rfl rfl hmap _ rfl HW1.out ?_)
                        | (at_mapUpdate; refine wpList_put _ rfl _ _ _ rfl rfl hmap hnn _ _ rfl rfl HW1.out HW2.out HS0.out ?_; intro w2 hmap2 hg2))
                      have HPN := Lib.hid (HP2.out.remap hg2 (HTS2.out ▸ hmap2))
                      have HOK2 := Lib.hid (HOS2.out HZ0.out)
                      clear hmap2 hg2
                      go_roundg g
                      case measure => omega
                      case rel => exact ⟨kk + 1, by omega, by go_num, HOK2.out, HPN.out⟩
                  | zero =>
                    obtain rfl : kk = c.length := by omega
                    have HOKF := Lib.hid (show okT f y c = true by have := HOK.out; rwa [List.take_length] at this)
                    have HSTF := Lib.hid (show St E Z wr g0 k0 g1 k1 fv2 c d (tk f y c) (F ++ br1 k E.n E.m E.sums j barred c d f s) by have := HST.out; rwa [List.take_length] at this)
                    have HINV := Lib.hid (show Inv E.n E.m E.sums j c (d ++ [y]) (tk f y c) by have := HI.out.grow2 HNE.out (s := s) (by rw [← HA.out]; exact HS.out) HN.out (by rw [HX0.out]; exact h60') (by rw [HX0.out]; exact HOKF.out); rw [HX0.out, ← HA.out] at this; exact this)
                    have HBR := Lib.hid (show br2 k E.n E.m E.sums j c d f s = growL k E.n E.m E.sums j (j : Int) c (d ++ [y]) (tk f y c) by unfold br2; rw [HX0.out, if_neg (fun h => h.elim HN.out (fun h => by have := HN60.out; omega)), if_pos HOKF.out])
                    have HLEN := Lib.hid (show (F ++ br1 k E.n E.m E.sums j barred c d f s).length + 2 ^ k ≤ 1000000 by have := HF.out; rw [Nat.pow_succ] at this; have := br1_le k E.n E.m E.sums j barred c d f s; rw [List.length_append]; omega)
                    have HOWN := Lib.hid hst.own1
                    have hD8 : d.length ≤ 8 := by omega
                    have hcn : ∀ (o : Value), (wr.alloc (Obj.cells #[o] 3)).cell? ⟨wr.heap.size, 0, none⟩ = some o := fun o => (Box.new wr 3 #[o]).cell 0
                    have HCN := Lib.hid hcn
                    clear hst HP2 hcn
                    go_wp2_with (first
                      | (at_builtin; refine wpList_app1 _ rfl _ _ rfl (HOWN.out.alloc _) rfl wr.heap.size 1 y rfl (HCN.out _) (by omega) ?_; intro gn kn w4 hown4 hat4; have pc4 := (HSTF.out.pair41 hat4).cell 1; have pf4 := (HSTF.out.pair41 hat4).free 1; simp only [List.getElem?_toArray, List.getElem?_cons_zero, List.getElem?_cons_succ] at pc4; have HPUT := Lib.hid (HSTF.out.put1 hown4 hat4); have qg5 : (w4.setCell ⟨E.Bp, 1, none⟩ (.slice (some ⟨gn, 0, none⟩) (d.length + 1) kn)).cell? ⟨E.Bg, 0, none⟩ = some (.func (.func 98) #[] #[.pointer (some ⟨E.Bp, 0, none⟩), .pointer (some ⟨E.Bs, 0, none⟩), .pointer (some ⟨E.Bf, 0, none⟩), .pointer (some ⟨E.Bl, 0, none⟩), .pointer (some ⟨E.Bq, 0, none⟩), .pointer (some ⟨E.Bg, 0, none⟩)]) := HPUT.out.1.cells.2.2.2.2.2.2; clear hown4 hat4))
                    refine (IH.out (fun i => Z i ∨ i = gn) _ j (j : Int) g0 k0 gn kn fv2 c (d ++ [y]) (tk f y c) (F ++ br1 k E.n E.m E.sums j barred c d f s) HPUT.out.1 HINV.out (by have := HK.out; simp only [List.length_append, List.length_singleton]; omega) (by omega) (by omega) (by omega) HLEN.out).mono ?_
                    rintro e w6 ⟨rfl, fv6, hst6, hT6, hfv6⟩
                    have pc6 := hst6.pair.cell 1
                    have pf6 := hst6.pair.free 1
                    simp only [List.getElem?_toArray, List.getElem?_cons_zero, List.getElem?_cons_succ] at pc6
                    have hB6 := HSTF.out.back1 HPUT.out.2.1 HPUT.out.2.2 hst6 hT6 hfv6
                    have HB6 := Lib.hid hB6
                    obtain ⟨fv7, hst7, _, _⟩ := hB6
                    have ql7 := hst7.cells.2.2.2.2.1
                    have HST7 := Lib.hid hst7
                    clear hst6 hT6 hfv6 hst7 qg5 pc4 pf4
                    go_wp2_with fail
                    refine (St.give0 (kk := c.length) (show St E Z _ g0 k0 g1 k1 fv7 c d (tk f y (c.take c.length)) _ by rw [List.take_length]; exact HST7.out) (Nat.le_refl _) (by omega) HI.out.ce ⟨hy1, hy2⟩ HI.out.rng (by rw [List.take_length]; exact HOKF.out) (fun v hv => HST7.out.env.keys v (HI.out.key v hv))).mono ?_
                    rintro e w8 ⟨rfl, hm8, hg8⟩
                    have HPE := Lib.hid (Post.remap (Post.trans HT2.out HFV2.out HB6.out) hg8 hm8)
                    clear hm8 hg8
                    go_wp2_with fail
                    go_roundg 0
                    case measure => omega
                    case rel => exact ⟨2, by omega, rfl, by rw [if_neg (by decide), if_neg (by decide), HBR.out, ← List.append_assoc]; exact HPE.out⟩
          · obtain rfl : gk = 0 := by omega
            rw [if_neg (by decide), if_neg (by decide)] at hP
            have HP2 := Lib.hid hP
            clear hP
            have HG := Lib.hid (show growL (k + 1) E.n E.m E.sums at_ barred c d f = br1 k E.n E.m E.sums j barred c d f s ++ br2 k E.n E.m E.sums j c d f s by have := growL_succ (k := k) (barred := barred) HNE.out (s := s) (by rw [← HA.out]; exact HS.out); rw [← HA.out] at this; exact this)
            go_wp2_with fail
            go_end0
            exact ⟨rfl, by rw [HG.out]; exact HP2.out⟩

theorem grow_any (E : Env) : ∀ k, GrowC E k
  | 0 => fun Z w at_ barred g0 k0 g1 k1 fv c d f F _ hinv hk _ _ _ _ => by
    have := hinv.cl
    have := hinv.dl
    omega
  | k + 1 => fun Z w at_ barred g0 k0 g1 k1 fv c d f F h hinv hk hb1 hb2 hat hF => by
    by_cases hc : c.length = E.n ∧ d.length = E.m
    · have e : growL (k + 1) E.n E.m E.sums at_ barred c d f = [(c, d)] := by rw [growL, if_pos hc]
      rw [e]
      have hnm := hinv.nm
      have hp : 1 ≤ 2 ^ (k + 1) := Nat.one_le_two_pow
      exact grow_done E Z w at_ barred g0 k0 g1 k1 fv c d f F h hc.1 hc.2 ⟨hinv.cl.1, by omega⟩ ⟨hinv.dl.1, by omega⟩ (by omega)
    · exact grow_search E k (grow_any E k) Z w at_ barred g0 k0 g1 k1 fv c d f F h hinv hk hb1 hb2 hat hF hc

end Go.Proofs.Ytkkholagmjcgiaa
