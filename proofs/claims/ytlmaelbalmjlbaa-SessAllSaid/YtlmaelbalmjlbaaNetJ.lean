/- Layer 15: the document's Unpack. -/
import Derived.Test.YtlmaelbalmjlbaaNetI
import Derived.Test.YtlmaelbalmjlbaaNetF
set_option linter.all false
namespace Go.Proofs.Ytlmaelbalmjlbaa
open Go.RowKit
namespace Net
open Str (far sealL)
theorem field_why (a b : Int) (W : World) : (Instr.field 101 (.agg #[.int .i64 a, .int .i64 b]) 0).run Try.prog W = .ok (.int .i64 a) W := by kernel_rfl
section
variable (w : World)
set_option maxRecDepth 100000 in
set_option maxHeartbeats 4000000 in
theorem runpack_ (A : Option Addr) (n c : Nat) (x : List UInt8) (hr : Bs w A n x) (hA : A = none → n = 0 ∧ c = 0) (hnc : n ≤ c) (hc : c ≤ 9223372036854775807) (hnb : n ≤ 140737488351300) :
    Calls Try.prog 42 #[.slice A n c] w fun e w' => UnA w w' e x := by
  have Hl := Lib.hid hr.len
  have hres := Blk.new w 36 ma0 rfl
  obtain ⟨w1, hw1⟩ : ∃ w1, w.alloc (.cells ma0 36) = w1 := ⟨_, rfl⟩
  have hs1 : w1.heap.size = w.heap.size + 1 := by rw [← hw1]; simp
  have hb1 : Below w.heap.size w w1 := by rw [← hw1]; exact (Below.refl _ _).alloc (Nat.le_refl _) _
  rw [hw1] at hres
  have hr1 := hr.below hb1
  by_cases hop : openE x = 0
  · obtain ⟨m, s1, s2, s3, s4, s5, s6, s7, Z⟩ := run_all 2147483648 (openL x)
    have Hop := Lib.hid hop
    obtain ⟨y, hy⟩ : ∃ y, openL x = y := ⟨_, rfl⟩
    have Hy := Lib.hid hy
    have hyl : y.length ≤ 140737488351300 := by rw [← hy]; have := openL_le x; have := Hl.out; omega
    rw [hy] at Z
    clear hop hy
    go_enter Try.func42, Try.ntmps42
    go_wp2_with fail
    refine (refOpen A n c x _ hr1 hA hnc hc hnb).mono ?_
    rw [Hop.out, Hy.out]
    rintro e w2 ⟨v2, rfl, hown2, hb2⟩
    obtain ⟨A2, c2, rfl, hc2, hm2, ha2⟩ := own_form hown2
    have hres2 := hres.keep hb2
    have hB2 := below_step hb1 hb2 (by omega)
    have hs2 := hb2.size
    have hbs2 := bs_own hown2
    have hlt2 : ∀ k, (Value.slice A2 y.length c2).ownBlock = some k → k < w2.heap.size := fun k hk => (hown2.lt k hk).2
    unfold maxLen at hm2
    obtain ⟨yn, hyn⟩ : ∃ n, y.length = n := ⟨_, rfl⟩
    have Hyn := Lib.hid hyn
    rw [hyn] at hbs2 hc2 ha2 hyl ⊢
    clear hyn hres hb1 hb2 hown2 hr1
    have hmr : Blk (w2.alloc (.cells #[.slice A2 yn c2, .int .i64 0, .int .i64 0, .int .i64 0] 103)) w2.heap.size 103 #[.slice A2 yn c2, .int .i64 0, .int .i64 0, .int .i64 0] := Blk.new w2 _ _ rfl
    obtain ⟨w3, hw3⟩ : ∃ w3, w2.alloc (.cells #[.slice A2 yn c2, .int .i64 0, .int .i64 0, .int .i64 0] 103) = w3 := ⟨_, rfl⟩
    have hb3 : Below w2.heap.size w2 w3 := by rw [← hw3]; exact (Below.refl _ _).alloc (Nat.le_refl _) _
    have hs3 : w3.heap.size = w2.heap.size + 1 := by rw [← hw3]; simp
    rw [hw3] at hmr
    have hR : Rfs w3 w2.heap.size y ⟨0, 0, 0⟩ := ⟨A2, yn, c2, hmr, hbs2.below hb3, fun a ha => by have := hlt2 a.block (by rw [ha]; rfl); exact this, ha2, hc2, hm2, Nat.zero_le _, fun _ => rfl⟩
    have hres3 := hres2.keep hb3
    have hB3 := below_step hB2 hb3 (by omega)
    have Hw3 := Lib.hid hw3
    clear hw3
    go_wp2_with fail
    rw [Hw3.out]
    obtain ⟨br, hbr⟩ : ∃ br, w2.heap.size = br := ⟨_, rfl⟩
    have hrg : w.heap.size < br := by omega
    have hy2 : y.length ≤ 140737488355328 := by rw [Hyn.out]; omega
    rw [hbr] at hR ⊢
    clear hbs2 hres2 hb3 hw1 hmr hlt2
    refine (rfint_at br y ⟨0, 0, 0⟩ s1 _ _ hR Z.z1 Z.e1).mono ?_
    rintro e w4 ⟨rfl, hR4, hg4⟩
    go_wp2_with fail
    refine (rfint_at br y s1 s2 _ _ hR4 Z.z2 Z.e2).mono ?_
    rintro e w5 ⟨rfl, hR5, hg5⟩
    go_wp2_with fail
    refine (rfint_at br y s2 s3 _ _ hR5 Z.z3 Z.e3).mono ?_
    rintro e w6 ⟨rfl, hR6, hg6⟩
    go_wp2_with fail
    refine (rfint_at br y s3 s4 _ _ hR6 Z.z4 Z.e4).mono ?_
    rintro e w7 ⟨rfl, hR7, hg7⟩
    go_wp2_with fail
    refine (rfint_at br y s4 s5 _ _ hR7 Z.z5 Z.e5).mono ?_
    rintro e w8 ⟨rfl, hR8, hg8⟩
    go_wp2_with fail
    refine (rfint_at br y s5 s6 _ _ hR8 Z.z6 Z.e6).mono ?_
    rintro e w9 ⟨rfl, hR9, hg9⟩
    go_wp2_with fail
    have hgr := (((((hg4.trans hg5).trans hg6).trans hg7).trans hg8).trans hg9)
    have hs9 := hgr.size
    have hbr9 := Rf.lt hR9
    have hres9 := hres3.grown hgr (fun e => by injection e with e; omega)
    have hB9 : Below w.heap.size w w9 := hB3.grown hgr hB3.size (fun k hk => by injection hk with hk; omega)
    clear hres3 hB3 hR hR4 hR5 hR6 hR7 hR8 hg4 hg5 hg6 hg7 hg8 hg9 hgr
    have hac0 := Blk.new w9 36 (ma m (.slice none 0 0)) rfl
    obtain ⟨wa, hwa⟩ : ∃ wa, w9.alloc (.cells (ma m (.slice none 0 0)) 36) = wa := ⟨_, rfl⟩
    have hba : Below w9.heap.size w9 wa := by rw [← hwa]; exact (Below.refl _ _).alloc (Nat.le_refl _) _
    have hsa : wa.heap.size = w9.heap.size + 1 := by rw [← hwa]; simp
    rw [hwa] at hac0 ⊢
    have hRa : Rfs wa br y s6 := hR9.below hba
    have hresa := hres9.keep hba
    have hBa := below_step hB9 hba (by omega)
    obtain ⟨mb, hmb⟩ : ∃ k, w9.heap.size = k := ⟨_, rfl⟩
    rw [hmb] at hac0 hsa hbr9 ⊢
    have Hwa := Lib.hid hwa
    clear hR9 hres9 hB9 hba hwa
    refine (rfpart_ br y s6 _ hRa hy2).mono ?_
    rw [Z.z7.out, Z.e7.out]
    rintro e wb ⟨va, rfl, howna, hRb, hgb⟩
    obtain ⟨Aa, ca, rfl, hca, hma, haa⟩ := own_form howna
    have hsb := hgb.size
    have hfit : FitS m := by have := run_fit (c := 2147483648) (by decide) (by decide) y; rwa [Z.all.out] at this
    have hdl : m.d.length ≤ 140737488351300 := by rw [← Z.z7.out]; have := rPart_le (y := y) (s := s6); have := Hyn.out; omega
    have hresb := hresa.grown hgb (fun e => by injection e with e; omega)
    have hBb : Below w.heap.size w wb := hBa.grown hgb hBa.size (fun k hk => by injection hk with hk; omega)
    have hacb := hac0.grown hgb (fun e => by injection e with e; omega)
    obtain ⟨dn, hdn⟩ : ∃ n, m.d.length = n := ⟨_, rfl⟩
    have Hdn := Lib.hid hdn
    rw [hdn] at howna hca haa hdl ⊢
    have hma' := hma
    unfold maxLen at hma'
    have howl : ∀ k, (Value.slice Aa dn ca).ownBlock = some k → mb < k := fun k hk => by have := (howna.lt k hk).1; omega
    clear hdn hresa hBa hac0 hRa hgb
    have a6 := hacb.cell (j := 6) (u := .slice none 0 0) rfl
    have af := hacb.free 6
    go_wp2_with fail
    have hset := grown_setCell wb ⟨mb, 6, none⟩ (.slice Aa dn ca)
    have hacs : Blk (wb.setCell ⟨mb, 6, none⟩ (.slice Aa dn ca)) mb 36 (ma m (.slice Aa dn ca)) := by simpa using hacb.setCell 6 (.slice Aa dn ca)
    have hress := hresb.grown hset (fun e => by injection e with e; simp only at e; omega)
    have howns := own_grown howna hset (fun k hk e => by injection e with e; simp only at e; have := howl k hk; omega)
    have hBs : Below w.heap.size w (wb.setCell ⟨mb, 6, none⟩ (.slice Aa dn ca)) := hBb.grown hset hBb.size (fun k hk => by injection hk with hk; simp only at hk; omega)
    have hRs : Rfs (wb.setCell ⟨mb, 6, none⟩ (.slice Aa dn ca)) br y s7 := Rf.grown hRb hset (by simpa using hbr9)
    have hss := hset.size
    obtain ⟨ws, hws⟩ : ∃ ws, wb.setCell ⟨mb, 6, none⟩ (.slice Aa dn ca) = ws := ⟨_, rfl⟩
    rw [hws] at hacs hress howns hBs hRs hss ⊢
    have Hws := Lib.hid hws
    clear hacb hresb howna hBb hRb a6 af hset hws
    refine (rfend_ br y s7 _ hRs).mono ?_
    obtain ⟨t, ht⟩ : ∃ t, rEnd y s7 = t := ⟨_, rfl⟩
    rw [ht]
    have Hend := Lib.hid (show (decide (t.e = 0) && decide (MayM m)) = decide (FormM y) by
      have := run_is (c := 2147483648) (by decide) y
      rwa [Z.all.out, Z.ends.out, ht] at this)
    rintro e wc ⟨rfl, hRc, hgc⟩
    have hacc := hacs.grown hgc (fun e => by injection e with e; omega)
    have hresc := hress.grown hgc (fun e => by injection e with e; omega)
    have hBc : Below w.heap.size w wc := hBs.grown hgc hBs.size (fun k hk => by injection hk with hk; omega)
    have hownc : wc.ownsRow wa.heap.size 5 1 (.slice Aa dn ca) dn (bvs m.d) := own_grown howns hgc (fun k hk e => by injection e with e; have := (howl k hk); omega)
    have hsc := hgc.size
    have hacb := hacs
    have hresb := hress
    have hownb := howns
    have hBb := hBs
    have hRb := hRs
    obtain ⟨p, e0, f0⟩ := t
    clear hacs hress howns hBs hRs
    have hef : e0 = 0 → f0 = 0 := fun h => Rf.none_f hRc h
    simp only at Hend
    obtain ⟨d0, d1, d2, d3, d4, d5, d6⟩ := ma_blk hacc
    obtain ⟨r0, r1, r2, r3, r4, r5, r6⟩ := ma_blk (m := zM) hresc
    have g0 := hresc.free 0
    have g1 := hresc.free 1
    have g2 := hresc.free 2
    have g3 := hresc.free 3
    have g4 := hresc.free 4
    have g5 := hresc.free 5
    have g6 := hresc.free 6
    clear hacb hresb hownb hBb hgc hRb hRc ht
    by_cases he : e0 = 0
    · obtain rfl := hef he
      subst he
      have fw := field_why 0 0
      have hMd : Mdt wc m Aa dn ca := ⟨bs_own hownc, haa, hca, by omega, hdl, hfit⟩
      go_wp2_with fail
      refine (rright_ _ m Aa dn ca hMd).mono ?_
      by_cases hM : MayM m
      · rw [decide_eq_true hM]
        rintro e wd ⟨rfl, hbd⟩
        have Hu := Lib.hid (show unE x = 0 ∧ unV x = m by
          have hF : FormM y := by
            have := Hend.out
            rw [decide_eq_true hM] at this
            exact of_decide_eq_true this.symm
          have h2 := unV_run (c := 2147483648) (by decide) Hop.out (by rw [Hy.out]; exact hF)
          rw [Hy.out, Z.all.out] at h2
          exact h2)
        have haccd := hacc.keep hbd
        have hresd := hresc.keep hbd
        have hBd := below_step hBc hbd (by omega)
        have hownd := own_keep hownc hbd
        have hsd := hbd.size
        have HM := Lib.hid hM
        clear d0 d1 d2 d3 d4 d5 d6 r0 r1 r2 r3 r4 r5 r6 g0 g1 g2 g3 g4 g5 g6 hacc hresc hBc hownc hbd hMd hM
        obtain ⟨d0, d1, d2, d3, d4, d5, d6⟩ := ma_blk haccd
        obtain ⟨r0, r1, r2, r3, r4, r5, r6⟩ := ma_blk (m := zM) hresd
        have g0 := hresd.free 0
        have g1 := hresd.free 1
        have g2 := hresd.free 2
        have g3 := hresd.free 3
        have g4 := hresd.free 4
        have g5 := hresd.free 5
        have g6 := hresd.free 6
        go_wp2
        refine bodyPost_ret (results_msg rfl rfl (ma_set (m := zM) hresd m.fr m.to m.k m.ep m.sq m.ac (.slice Aa dn ca))) rfl ?_
        unfold UnA
        rw [Hu.out.1, Hu.out.2, Hdn.out]
        exact ⟨Aa, ca, rfl, (own_grown hownd (sets_grown _ _ _ _ _ _ _ _ _) (fun k hk e => by injection e with e; have := howl k hk; omega)).mono (by omega), hBd.grown (sets_grown _ _ _ _ _ _ _ _ _) hBd.size (fun k hk => by injection hk with hk; omega)⟩
      · rw [decide_eq_false hM]
        rintro e wd ⟨rfl, hbd⟩
        have Hu := Lib.hid (show unE x = 5 ∧ unV x = zM by
          have hF : ¬ FormM y := by
            have := Hend.out
            rw [decide_eq_false hM, Bool.and_false] at this
            exact of_decide_eq_false this.symm
          have h2 := (unE_of Hop.out).2
          rw [Hy.out, if_neg hF] at h2
          exact ⟨h2, unV_no (by rw [h2]; decide)⟩)
        have hresd := hresc.keep hbd
        have hBd := below_step hBc hbd (by omega)
        clear d0 d1 d2 d3 d4 d5 d6 r0 r1 r2 r3 r4 r5 r6 g0 g1 g2 g3 g4 g5 g6 hacc hresc hBc hownc hbd hMd hM
        obtain ⟨r0, r1, r2, r3, r4, r5, r6⟩ := ma_blk (m := zM) hresd
        have g0 := hresd.free 0
        have g1 := hresd.free 1
        have g2 := hresd.free 2
        have g3 := hresd.free 3
        have g4 := hresd.free 4
        have g5 := hresd.free 5
        have g6 := hresd.free 6
        go_wp2
        refine bodyPost_ret (results_msg rfl rfl (ma_set (m := zM) hresd 0 0 0 0 0 0 (.slice none 0 0))) rfl ?_
        unfold UnA
        rw [Hu.out.1, Hu.out.2]
        exact ⟨none, 0, rfl, own_nil _ _ _ _, hBd.grown (sets_grown _ _ _ _ _ _ _ _ _) hBd.size (fun k hk => by injection hk with hk; omega)⟩
    · have fw := field_why (e0 : Int) (f0 : Int)
      have t1 : ((e0 : Int) == 0) = false := by simpa using he
      have t2 : ¬ (e0 : Int) = 0 := by omega
      have Hu := Lib.hid (show unE x = 5 ∧ unV x = zM by
        have hF : ¬ FormM y := by
          have := Hend.out
          rw [decide_eq_false he, Bool.false_and] at this
          exact of_decide_eq_false this.symm
        have h2 := (unE_of Hop.out).2
        rw [Hy.out, if_neg hF] at h2
        exact ⟨h2, unV_no (by rw [h2]; decide)⟩)
      go_wp2
      refine bodyPost_ret (results_msg rfl rfl (ma_set (m := zM) hresc 0 0 0 0 0 0 (.slice none 0 0))) rfl ?_
      unfold UnA
      rw [Hu.out.1, Hu.out.2]
      exact ⟨none, 0, rfl, own_nil _ _ _ _, hBc.grown (sets_grown _ _ _ _ _ _ _ _ _) hBc.size (fun k hk => by injection hk with hk; omega)⟩
  · obtain ⟨q1, q2, q3⟩ := unE_no hop
    have Q1 := Lib.hid q1
    have Q2 := Lib.hid q2
    have Q3 := Lib.hid q3
    clear q1 q2 q3 hop
    go_enter Try.func42, Try.ntmps42
    go_wp2_with fail
    refine (refOpen A n c x _ hr1 hA hnc hc hnb).mono ?_
    rw [Q1.out]
    rintro e w2 ⟨v2, rfl, _, hb2⟩
    have hresc := hres.keep hb2
    have hBc := below_step hb1 hb2 (by omega)
    clear hres hb1 hb2 hr1 hw1
    obtain ⟨r0, r1, r2, r3, r4, r5, r6⟩ := ma_blk (m := zM) hresc
    have g0 := hresc.free 0
    have g1 := hresc.free 1
    have g2 := hresc.free 2
    have g3 := hresc.free 3
    have g4 := hresc.free 4
    have g5 := hresc.free 5
    have g6 := hresc.free 6
    go_wp2
    refine bodyPost_ret (results_msg rfl rfl (ma_set (m := zM) hresc 0 0 0 0 0 0 (.slice none 0 0))) rfl ?_
    unfold UnA
    rw [Q2.out, Q3.out]
    exact ⟨none, 0, rfl, own_nil _ _ _ _, hBc.grown (sets_grown _ _ _ _ _ _ _ _ _) hBc.size (fun k hk => by injection hk with hk; omega)⟩
end
end Net
end Go.Proofs.Ytlmaelbalmjlbaa
