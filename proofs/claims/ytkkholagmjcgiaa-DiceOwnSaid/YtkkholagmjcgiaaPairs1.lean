/- The closure grow inside pairs of package dice, where both dice are complete: clones of both are appended to what is found. -/
import Derived.Test.YtkkholagmjcgiaaPairs0
namespace Go.Proofs.Ytkkholagmjcgiaa
open Go.RowKit Go.Maps

theorem Try.info77 : (Try.prog.info? 77).map (fun i => (i.zero, i.size, i.bytes)) = some (some (.agg #[.slice none 0 0, .slice none 0 0]), 2, 48) := by kernel_rfl

set_option maxRecDepth 100000 in
set_option maxHeartbeats 2000000 in
theorem grow_done (E : Env) (Z : Nat → Prop) (w : World) (at_ barred : Int) (g0 k0 g1 k1 : Nat) (fv : Value) (c d : List Int) (f : Int → Int) (F : List (List Int × List Int)) (h : St E Z w g0 k0 g1 k1 fv c d f F)
    (hc : c.length = E.n) (hd : d.length = E.m) (hc8 : 1 ≤ c.length ∧ c.length ≤ 8) (hd8 : 1 ≤ d.length ∧ d.length ≤ 8) (hF : F.length ≤ 1000000) :
    Calls Try.prog 98 (#[.int .i64 at_, .int .i64 barred] ++ E.caps) w fun e w' => e = .returned (.tuple #[]) ∧ Post E Z w g0 k0 g1 k1 fv c d f (F ++ [(c, d)]) w' := by
  have p0 := h.pair.cell 0
  have p1 := h.pair.cell 1
  have s0 := h.env.sizes.cell 0
  have s1 := h.env.sizes.cell 1
  have f0 := h.found.cell 0
  have ff0 := h.found.free 0
  simp only [List.getElem?_toArray, List.getElem?_cons_zero, List.getElem?_cons_succ] at p0 p1 s0 s1 f0
  have t0 : ((c.length : Int) == (E.n : Int)) = true := by rw [hc]; simp
  have t1 : ((d.length : Int) == (E.m : Int)) = true := by rw [hd]; simp
  have H := Lib.hid h
  have HC := Lib.hid hc
  have HDD := Lib.hid hd
  clear h hc hd
  show Calls Try.prog _ #[.int .i64 at_, .int .i64 barred, .pointer (some ⟨E.Bp, 0, none⟩), .pointer (some ⟨E.Bs, 0, none⟩), .pointer (some ⟨E.Bf, 0, none⟩), .pointer (some ⟨E.Bl, 0, none⟩), .pointer (some ⟨E.Bq, 0, none⟩), .pointer (some ⟨E.Bg, 0, none⟩)] w _
  go_enter Try.func98, Try.ntmps98
  go_wp2_with fail
  have o0 := Lib.hid H.out.own0
  have o1 := Lib.hid H.out.own1
  have lp := H.out.pair.lt
  obtain ⟨i0, hi0, hz0, hz1, hz2⟩ := info_parts Try.info77
  obtain ⟨vs, hvl, hof, hzf, hcl⟩ := H.out.out
  have hpf : E.Bp ≠ E.Bf := H.out.pair.ne H.out.found (by decide)
  have hfp : fv.ownBlock ≠ some E.Bp := fun e => hzf _ e H.out.z.2.2
  have hff : fv.ownBlock ≠ some E.Bf := fun e => by
    obtain ⟨_, cur, hx⟩ := outBlock_lt hof _ e
    exact hx.ne H.out.found (by decide) rfl
  have hof := Lib.hid hof
  have hzf := Lib.hid hzf
  have hcl := Lib.hid hcl
  have hvl := Lib.hid hvl
  have lf := H.out.found.lt
  go_step3
  go_wp2_with fail
  go_region_law (first
      | (have hof2 := own_below (own_below hof.out hba) hbb
         refine step_append_lies _ (by rfl) _ _ _ (by rfl) 0 77 i0 _ 2 48 Try.underlying50 hi0 hz0 hz1 hz2 rfl (by omega) fv F.length _ (by rfl) (by first | exact hof2.alloc _ | exact (hof2.alloc _).drew | exact hof2.drew.alloc _)
           ⟨w2.heap.size, 0, none⟩ 1 1 [.slice (some ⟨ga, 0, none⟩) c.length ka, .slice (some ⟨gb, 0, none⟩) d.length kb] (by rfl) (by rfl) (World.news_of_block (cs := #[.slice (some ⟨ga, 0, none⟩) c.length ka, .slice (some ⟨gb, 0, none⟩) d.length kb]) (t := 77) (fr := (0, 0)) (heap_alloc_new w2 _)) (by simp [Value.oneCell'])
           (by omega) (by unfold maxLen; omega) (bytes48 hF) (by simp) (w2.heap.size + 1) (by simp) ?_
         intro gf cf w3 hown3 hg3 hat3 hlt3; have f3 := (World.cell?_of_block (done_chain (w := w) hba hbb hg3 E.Bf lf hff)).trans f0; have ff3 := (World.frozen?_of_block (done_chain (w := w) hba hbb hg3 E.Bf lf hff)).trans ff0)
      | (go_simp; go_at_call_of 99 (Value.slice (some ⟨g0, 0, none⟩) c.length k0); refine (Clone_own g0 k0 c _ (by first | exact o0.out | exact o0.out.drew) hc8.1 (by omega)).mono ?_; rintro e w1 ⟨ga, ka, rfl, hga, hoa, hba0⟩; have hba : Below w.heap.size w w1 := (by first | exact hba0 | exact below_undrew hba0); clear hba0; have f1 := (hba.cell (p := ⟨E.Bf, 0, none⟩) lf).trans f0; have ff1 := (hba.frozen (p := ⟨E.Bf, 0, none⟩) lf).trans ff0; have p01 := (hba.cell (p := ⟨E.Bp, 0, none⟩) lp).trans p0; have p11 := (hba.cell (p := ⟨E.Bp, 1, none⟩) lp).trans p1)
      | (go_simp; go_at_call_of 99 (Value.slice (some ⟨g1, 0, none⟩) d.length k1); refine (Clone_own g1 k1 d _ (o1.out.below hba o1.out.lt) hd8.1 (by omega)).mono ?_; rintro e w2 ⟨gb, kb, rfl, hgb, hob, hbb⟩; have f2 := (hbb.cell (p := ⟨E.Bf, 0, none⟩) (Nat.lt_of_lt_of_le lf hba.size)).trans f1; have ff2 := (hbb.frozen (p := ⟨E.Bf, 0, none⟩) (Nat.lt_of_lt_of_le lf hba.size)).trans ff1; have f22 : (w2.alloc (Obj.cells #[Value.slice (some ⟨ga, 0, none⟩) c.length ka, Value.slice (some ⟨gb, 0, none⟩) d.length kb] 77)).cell? ⟨E.Bf, 0, none⟩ = some fv := (World.cell?_of_block (done_chain2 (w := w) _ hba hbb E.Bf lf)).trans f0))
  all_goals
    go_wp2_with fail
    rw [Exit.noGoto_ret]
    refine bodyPost_ret (results_none rfl _ _ _) rfl ⟨rfl, done_post H.out hvl.out hzf.out hof.out hcl.out hga hoa hba hgb hob hbb hown3 hg3 hat3⟩

end Go.Proofs.Ytkkholagmjcgiaa
