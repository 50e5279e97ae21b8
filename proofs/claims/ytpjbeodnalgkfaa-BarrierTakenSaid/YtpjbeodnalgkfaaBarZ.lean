/- Layer 17: what happens, in memory: Begin, and a step. -/
import Derived.Test.YtpjbeodnalgkfaaBarY
set_option linter.all false
namespace Go.Proofs.Ytpjbeodnalgkfaa
open Go.RowKit
namespace Bar
section
variable (w : World)
set_option maxRecDepth 100000 in
set_option maxHeartbeats 8000000 in
theorem wdo0_ (B : Nat) (P : Nat → Prop) (wb cg : Nat) (gs : Nat → Nat) (av ov xv iv : Value) (W : Wd) (h : WmX w B P wb cg gs av ov xv iv W) {N : Nat} (hL : Lim N W) (hN : N ≤ 100000) (d : Dod) (hF : DoF d) (hkd : d.kd % 8 = 0) :
    Calls Try.prog 36 #[.pointer (some ⟨wb, 0, none⟩), .agg (doa d)] w fun r w' => WdoA B P wb cg gs av (wDo W d) w w' r := by
  have hba : Below w.heap.size w (w.alloc (.cells (doa d) 66)) := (Below.refl _ _).alloc (Nat.le_refl _) _
  have hbd : Blk (w.alloc (.cells (doa d) 66)) w.heap.size 66 (doa d) := Blk.new w _ _ rfl
  have hwl := h.lt
  have hlow := h.low
  have h1 := h.keep hba
  have hB1 : Fr B P w (w.alloc (.cells (doa d) 66)) := Fr.ofBelow hba
  obtain ⟨w1, hw1⟩ : ∃ w1, w.alloc (.cells (doa d) 66) = w1 := ⟨_, rfl⟩
  have hs1 : w1.heap.size = w.heap.size + 1 := by rw [← hw1]; simp
  obtain ⟨gd, hgd⟩ : ∃ g, w.heap.size = g := ⟨_, rfl⟩
  have Hw := Lib.hid hw1
  have Hg := Lib.hid hgd
  rw [hw1] at hbd h1 hB1
  rw [hgd] at hbd hs1
  have hgl : gd < w1.heap.size := by omega
  have hgw : gd ≠ wb := by have := hwl.1; omega
  have hgc : gd ≠ cg ∧ gd ≠ cg + 1 := by have := hwl.2.1; omega
  have hgg : ∀ i, i < W.g.length → gd ≠ gs i ∧ gd ≠ gs i + 1 := fun i hi => by have := hwl.2.2 i hi; omega
  obtain ⟨kk, hkk⟩ : ∃ k, d.kd = k := ⟨_, rfl⟩
  have t0 : ((d.kd : Int) % 8 == 0) = true := by rw [mod8 hkd]; decide
  have hkl : (d.kd : Int) < 256 := by have := hF.kd; omega
  have hkn : (0 : Int) ≤ (d.kd : Int) := by omega
  have hI := hF.id
  have d0 := hbd.cell (j := 0) (u := .int .u8 (d.kd : Int)) rfl
  have d1 := hbd.cell (j := 1) (u := .int .i64 d.id) rfl
  have d2 := hbd.cell (j := 2) (u := .int .i64 d.i) rfl
  obtain ⟨c0, c1, c2, c3, c4⟩ := h1.cs
  have hwc := h1.wbC
  have H1 := Lib.hid h1
  have HL := Lib.hid hL
  have hWD := Lib.hid (show wDo W d = wBeg W d.id from by unfold wDo; rw [hkd]; try rfl)
  obtain ⟨AI, cI, hiv, hcI, hmI, hnI⟩ := own_form h1.ids
  obtain ⟨q, hq⟩ : ∃ q, W.ids.length = q := ⟨_, rfl⟩
  rw [hq] at hiv
  have Hq := Lib.hid hq
  have Hiv := Lib.hid hiv
  have hqN : q ≤ 100000 := by have := hL.ids; omega
  have hBg : ∀ p, Calls Try.prog 21 #[.pointer (some ⟨cg + 1, 0, none⟩), .int .i64 d.id] (w1.drewN p) fun r w' => r = .returned (.int .i64 (begE W.c d.id)) ∧ CdA w1 w' cg (Nm w1 wb cg gs W.g.length av ov xv iv) (begS W.c d.id) := fun p => by
    refine (begin_ (w1.drewN p) cg _ W.c (H1.out.co.drewN p) d.id hI).mono ?_
    rintro r w' ⟨e1, e2⟩
    exact ⟨e1, e2.undrew⟩
  obtain ⟨E, hE⟩ : ∃ E, begE W.c d.id = E := ⟨_, rfl⟩
  rw [hE] at hBg
  clear h h1 hL hba hw1 hgd hkk hkd hF hiv hq c1 c2 c3 c4
  by_cases h0 : E = 0
  · have tE : (E == 0) = true := by simpa using h0
    have hWE := Lib.hid (show wDo W d = { { W with c := begS W.c d.id } with ids := W.ids ++ [d.id] } by rw [hWD.out]; unfold wBeg; rw [hE, if_pos h0])
    clear h0 hE hWD
    go_enter Try.func36, Try.ntmps36
    go_wp2_with fail
    rw [Hw.out, Hg.out]
    go_region_held3 (fun w' => w'.cell? ⟨wb, 0, none⟩ = some (.pointer (some ⟨cg + 1, 0, none⟩)) ∧ w'.cell? ⟨gd, 1, none⟩ = some (.int .i64 d.id))
      (first | go_keep | exact ⟨c0, d1⟩ | exact ⟨fu_cell hA4.2 c0 (by simp only; omega), fu_cell hA4.2 d1 (by simp only; omega)⟩)
      (first | (go_at_call 21; refine (hBg _).mono ?_; rintro r w4 ⟨rfl, hA4⟩))
    obtain ⟨h4, hb4⟩ := H1.out.coTo hA4
    have hB4 := hB1.trans hb4
    have e4 := h4.cs.2.2.2.2
    rw [Hiv.out] at e4
    have e1 := fu_cell hA4.2 d1 (by simp only; omega)
    have hl4 := h4.lt.1
    have H4 := Lib.hid h4
    obtain ⟨i0, hi0', hz0, hz1, hz2⟩ := int_info
    have Hz := Lib.hid hz2
    clear hz2 hA4 hBg c0 d0 d1 d2 hbd h4 hb4
    clear hI
    have hox : w4.ownsRow B 3 1 (.slice AI q cI) q (ivs W.ids) := by have := H4.out.ids; rw [Hiv.out] at this; rw [← Hq.out]; rw [← Hq.out] at this; exact this
    have hba : Below w4.heap.size w4 (w4.drew.alloc (.cells #[.int .i64 d.id] 3)) := (below_drew (Below.refl _ _)).alloc (Nat.le_refl _) _
    have hoa := own_keep hox hba
    have hrd : Is (w4.drew.alloc (.cells #[.int .i64 d.id] 3)) (some ⟨w4.heap.size, 0, none⟩) 1 [d.id] := Is.new w4.drew [d.id] 3 (g := w4.heap.size) rfl (C := #[.int .i64 d.id]) rfl (n := 1) rfl
    have hone : ∀ u ∈ ivs [d.id], u.oneCell' = true := ivs_one _
    have z3 : q + 1 ≤ maxLen := by unfold maxLen; omega
    have z4 : (q + 1) * 8 ≤ 140737488355328 := by omega
    have hbs : B ≤ (w4.drew.alloc (.cells #[.int .i64 d.id] 3)).heap.size := by simp; omega
    have e4a : (w4.drew.alloc (.cells #[.int .i64 d.id] 3)).cell? ⟨wb, 4, none⟩ = some (.slice AI q cI) := (hba.cell (cell_lt e4)).trans e4
    have e1a := (hba.cell (cell_lt e1)).trans e1
    have e4b : (w4.alloc (.cells #[.int .i64 d.id] 3)).cell? ⟨wb, 4, none⟩ = some (.slice AI q cI) := e4a
    have e1b : (w4.alloc (.cells #[.int .i64 d.id] 3)).cell? ⟨gd, 1, none⟩ = some (.int .i64 d.id) := e1a
    have hka := H4.out.blk.keep hba
    have hsz4 := Lib.hid (show w4.heap.size ≤ (w4.drew.alloc (.cells #[.int .i64 d.id] 3)).heap.size by simp)
    have hfa : Fu (fun k => iv.ownBlock = some k) w4 (w4.drew.alloc (.cells #[.int .i64 d.id] 3)) := Fu.ofBelow hba
    have hxb : ∀ k, (Value.slice AI q cI).ownBlock = some k → iv.ownBlock = some k := fun k hk => by rw [Hiv.out]; exact hk
    have hwx : ∀ k, iv.ownBlock = some k → k ≠ wb := fun k hk => (H4.out.idsK hk).1
    clear hba hox
    go_wp2_with fail
    go_region_law (first
      | (refine step_app _ rfl (.tmp 37) (.tmp 40) _ rfl B 3 i0 _ 1 8 Try.underlying25 hi0' hz0 hz1 Hz.out rfl (by omega) (.slice AI q cI) q _ rfl hoa (some ⟨w4.heap.size, 0, none⟩) 1 1 (ivs [d.id]) rfl (fun h => by cases h) hrd hone z3 z4 hbs ?_
         intro v5 w6 hown5 hg5 hat5
         rw [← ivs_app] at hown5
         obtain ⟨A6, c6, rfl, hc6, hm6, hn6⟩ := own_form hown5
         have hk6 := hka.grown hg5 (fun q => hwx wb (hxb wb q.symm) rfl)
         have k4 : w6.cell? ⟨wb, 4, none⟩ = some (.slice AI q cI) := by rw [← Hiv.out]; exact hk6.cell rfl
         have f4 := hk6.free 4))
    all_goals (
      have hf6 : Fu (fun k => iv.ownBlock = some k) w4 w6 := hfa.step hg5 (fun k q => .inl (hxb k q))
      have hT := H4.out.idsTo (w2 := w6) (v' := .slice A6 (q + 1) c6) (l := W.ids ++ [d.id]) hf6 (by rw [List.length_append, Hq.out]; exact hown5) (fun g q => by
        rcases hat5 with e | e
        · left; rw [e] at q; exact hxb g q
        · right; rw [e] at q; injection q with q; exact Nat.le_trans hsz4.out (Nat.le_of_eq q))
      go_end0
      rw [hWE.out]
      exact ⟨_, _, _, rfl, hT.1, hB4.trans hT.2⟩)
  · have tE : (E == 0) = false := by simpa using h0
    have hWE := Lib.hid (show wDo W d = { W with c := begS W.c d.id } by
      rw [hWD.out]
      unfold wBeg begS
      rw [hE, if_neg h0, if_neg h0])
    clear h0 hE hWD
    go_enter Try.func36, Try.ntmps36
    go_wp2_with fail
    rw [Hw.out, Hg.out]
    go_region_held3 (fun w' => w'.cell? ⟨wb, 0, none⟩ = some (.pointer (some ⟨cg + 1, 0, none⟩)) ∧ w'.cell? ⟨gd, 1, none⟩ = some (.int .i64 d.id))
      (first | go_keep | exact ⟨c0, d1⟩ | exact ⟨fu_cell hA4.2 c0 (by simp only; omega), fu_cell hA4.2 d1 (by simp only; omega)⟩)
      (first | (go_at_call 21; refine (hBg _).mono ?_; rintro r w4 ⟨rfl, hA4⟩))
    obtain ⟨h4, hb4⟩ := H1.out.coTo hA4
    go_wp2
    go_end0
    rw [hWE.out]
    exact ⟨_, _, _, rfl, h4, hB1.trans hb4⟩
set_option maxRecDepth 100000 in
set_option maxHeartbeats 8000000 in
theorem wdo1_ (B : Nat) (P : Nat → Prop) (wb cg : Nat) (gs : Nat → Nat) (av ov xv iv : Value) (W : Wd) (h : WmX w B P wb cg gs av ov xv iv W) {N : Nat} (hL : Lim N W) (hN : N ≤ 100000) (d : Dod) (hF : DoF d) (hkd : d.kd % 8 = 1) :
    Calls Try.prog 36 #[.pointer (some ⟨wb, 0, none⟩), .agg (doa d)] w fun r w' => WdoA B P wb cg gs av (wDo W d) w w' r := by
  have hba : Below w.heap.size w (w.alloc (.cells (doa d) 66)) := (Below.refl _ _).alloc (Nat.le_refl _) _
  have hbd : Blk (w.alloc (.cells (doa d) 66)) w.heap.size 66 (doa d) := Blk.new w _ _ rfl
  have hwl := h.lt
  have hlow := h.low
  have h1 := h.keep hba
  have hB1 : Fr B P w (w.alloc (.cells (doa d) 66)) := Fr.ofBelow hba
  obtain ⟨w1, hw1⟩ : ∃ w1, w.alloc (.cells (doa d) 66) = w1 := ⟨_, rfl⟩
  have hs1 : w1.heap.size = w.heap.size + 1 := by rw [← hw1]; simp
  obtain ⟨gd, hgd⟩ : ∃ g, w.heap.size = g := ⟨_, rfl⟩
  have Hw := Lib.hid hw1
  have Hg := Lib.hid hgd
  rw [hw1] at hbd h1 hB1
  rw [hgd] at hbd hs1
  have hgl : gd < w1.heap.size := by omega
  have hgw : gd ≠ wb := by have := hwl.1; omega
  have hgc : gd ≠ cg ∧ gd ≠ cg + 1 := by have := hwl.2.1; omega
  have hgg : ∀ i, i < W.g.length → gd ≠ gs i ∧ gd ≠ gs i + 1 := fun i hi => by have := hwl.2.2 i hi; omega
  obtain ⟨kk, hkk⟩ : ∃ k, d.kd = k := ⟨_, rfl⟩
  have t0 : ((d.kd : Int) % 8 == 0) = false := by rw [mod8 hkd]; decide
  have t1 : ((d.kd : Int) % 8 == 1) = true := by rw [mod8 hkd]; decide
  have hkl : (d.kd : Int) < 256 := by have := hF.kd; omega
  have hkn : (0 : Int) ≤ (d.kd : Int) := by omega
  have hI := hF.id
  have d0 := hbd.cell (j := 0) (u := .int .u8 (d.kd : Int)) rfl
  have d1 := hbd.cell (j := 1) (u := .int .i64 d.id) rfl
  have d2 := hbd.cell (j := 2) (u := .int .i64 d.i) rfl
  obtain ⟨c0, c1, c2, c3, c4⟩ := h1.cs
  have hwc := h1.wbC
  have H1 := Lib.hid h1
  have HL := Lib.hid hL
  have hWD := Lib.hid (show wDo W d = wStep W from by unfold wDo; rw [hkd]; try rfl)
  obtain ⟨AI, cI, hiv, hcI, hmI, hnI⟩ := own_form h1.os
  obtain ⟨q, hq⟩ : ∃ q, W.os.length = q := ⟨_, rfl⟩
  rw [hq] at hiv
  rw [hiv] at c2
  have Hq := Lib.hid hq
  have Hiv := Lib.hid hiv
  have hqN : q ≤ 305 := by have := hL.os; omega
  have hk5 : (stepL W.c).length ≤ 5 := by have := stepL_len W.c; have := hL.n; have := hL.g; omega
  have hSt := cstep_ w1.drew cg _ W.c (H1.out.co.drewN 1)
  obtain ⟨K, hK⟩ : ∃ K, stepL W.c = K := ⟨_, rfl⟩
  rw [hK] at hSt hk5
  obtain ⟨k, hkl2⟩ : ∃ k, K.length = k := ⟨_, rfl⟩
  rw [hkl2] at hSt hk5
  have Hk := Lib.hid hkl2
  clear h h1 hL hba hw1 hgd hkk hkd hF hiv hq c1 c3 c4 hkl2
  have hl4 := H1.out.lt.1
  by_cases h0 : q < 300
  · have h0i : (q : Int) < 300 := by omega
    have hWE := Lib.hid (show wDo W d = { W with os := W.os ++ K } by rw [hWD.out]; unfold wStep; rw [if_pos (by rw [Hq.out]; exact h0), hK])
    clear hK hWD
    obtain ⟨i0, hi0', hz0, hz1, hz2⟩ := order_info
    have Hz := Lib.hid hz2
    clear hz2
    have hox : w1.ownsRow B 74 3 (.slice AI q cI) q (ods W.os) := by have := H1.out.os; rw [Hiv.out] at this; rw [← Hq.out]; rw [← Hq.out] at this; exact this
    have z3 : q + k ≤ maxLen := by unfold maxLen; omega
    have z4 : (q + k) * 24 ≤ 140737488355328 := by omega
    have hka := H1.out.blk
    have hxb : ∀ k, (Value.slice AI q cI).ownBlock = some k → ov.ownBlock = some k := fun k hk => by rw [Hiv.out]; exact hk
    have hwx : ∀ k, ov.ownBlock = some k → k ≠ wb := fun k hk => (H1.out.osK hk).1
    have c0' : (w.alloc (.cells (doa d) 66)).cell? ⟨wb, 2, none⟩ = some (.slice AI q cI) := by rw [Hw.out]; exact c2
    go_enter Try.func36, Try.ntmps36
    go_wp2_with fail
    rw [Hw.out, Hg.out]
    go_region_law (first
      | (refine step_app _ rfl (.tmp 56) (.tmp 61) _ rfl B 74 i0 _ 3 24 Try.underlying51 hi0' hz0 hz1 Hz.out rfl (by omega) (.slice AI q cI) q _ rfl hoa A2 k cp2 (ods K) rfl hA2n hrd2 (ods_one _) z3 z4 hbs ?_
         intro v5 w6 hown5 hg5 hat5
         rw [← ods_app] at hown5
         obtain ⟨A6, c6, rfl, hc6, hm6, hn6⟩ := own_form hown5
         have hk6 := hk2.grown hg5 (fun q => hwx wb (hxb wb q.symm) rfl)
         have k4 : w6.cell? ⟨wb, 2, none⟩ = some (.slice AI q cI) := by rw [← Hiv.out]; exact hk6.cell rfl
         have f4 := hk6.free 2)
      | (go_simp
         go_at_call 24
         refine hSt.mono ?_
         rintro r w2 ⟨v2, rfl, hown2, hb2⟩
         obtain ⟨A2, cp2, rfl, hcp2, hmx2, hnx2⟩ := own_form hown2
         have hA2n : A2 = none → k = 0 := fun e => (hnx2 e).1
         have hrd2 := rd_own hown2
         have hb2' : Below w1.heap.size w1 w2 := ⟨hb2.os, hb2.tape, hb2.output, hb2.size, hb2.block⟩
         have hoa := own_keep hox hb2'
         have hbs : B ≤ w2.heap.size := by have := hb2'.size; omega
         have hk2 := hka.keep hb2'
         have e2 : w2.cell? ⟨wb, 2, none⟩ = some (.slice AI q cI) := by rw [← Hiv.out]; exact hk2.cell rfl))
    all_goals (
      have hf6 : Fu (fun k => ov.ownBlock = some k) w1 w6 := (Fu.ofBelow hb2').step hg5 (fun k q => .inl (hxb k q))
      have hT := H1.out.osTo (w2 := w6) (v' := .slice A6 (q + k) c6) (l := W.os ++ K) hf6 (by rw [List.length_append, Hq.out, Hk.out]; exact hown5) (fun g q => by
        rcases hat5 with e | e
        · left; rw [e] at q; exact hxb g q
        · right; rw [e] at q; injection q with q; exact Nat.le_trans hb2'.size (Nat.le_of_eq q))
      go_end0
      rw [hWE.out]
      exact ⟨_, _, _, rfl, hT.1, hB1.trans hT.2⟩)
  · have h0i : ¬ (q : Int) < 300 := by omega
    have hWE := Lib.hid (show wDo W d = W by rw [hWD.out]; unfold wStep; rw [if_neg (by rw [Hq.out]; exact h0)])
    clear hK hWD
    have c0' : (w.alloc (.cells (doa d) 66)).cell? ⟨wb, 2, none⟩ = some (.slice AI q cI) := by rw [Hw.out]; exact c2
    go_enter Try.func36, Try.ntmps36
    go_wp2
    rw [Hw.out]
    go_end0
    rw [hWE.out]
    exact ⟨_, _, _, rfl, H1.out, hB1⟩
end
end Bar
end Go.Proofs.Ytpjbeodnalgkfaa
